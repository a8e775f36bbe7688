/- The walk of laws.FnShapeBent, over the seat's translation. -/
import Derived.Test.YtgigikmdipjffaaDrB2
import Derived.Test.YtgigikmdipjffaaShE2
import Derived.Test.YtgigikmdipjffaaShS6
import Derived.Test.YtgigikmdipjffaaOver
import Derived.Deep.RegionHeldLaw
import Derived.Laws.IdiomStrings
namespace Go.Proofs.Ytgigikmdipjffaa
open Go.RowKit

theorem hid {p : Prop} (h : p) : Hid p := h
theorem small_fit {L : List ACol} (h : ∀ c ∈ L, c.small) : ∀ c ∈ L, c.fit := fun c hc => by
  have := h c hc
  unfold ACol.small at this
  unfold ACol.fit maxLen
  omega

/-- Three lists of columns lie in W, a column in its box, and W lies over w. -/
def BS (w : World) (ba bb bs bx : Nat) (L M S : List ACol) (c : ACol) (W : World) : Prop :=
  ColsAt W (some ⟨ba, 0, none⟩) L ∧ ColsAt W (some ⟨bb, 0, none⟩) M ∧ ColsAt W (some ⟨bs, 0, none⟩) S ∧ Own7 bx c.nm c.kd c.nd c.oc c.k c.n c.s W ∧ bx < W.heap.size ∧ Below w.heap.size w W
theorem BS.next {w : World} {ba bb bs bx : Nat} {L M S : List ACol} {c : ACol} {W W' : World} (h : BS w ba bb bs bx L M S c W) (hb : Below W.heap.size W W') : BS w ba bb bs bx L M S c W' := by
  obtain ⟨h1, h2, h3, h4, h5, h6⟩ := h
  exact ⟨h1.keep hb, h2.keep hb, h3.keep hb, own7_next h4 h5 hb, Nat.lt_of_lt_of_le h5 hb.size, h6.trans (hb.mono h6.size)⟩

/-- append onto a slice of the call's own, as one step of a region that draws. -/
theorem step_append_own {P : Program} {ops : Array Oper} {o : Oper} {a : Act} {w : World} {K : Act → World → Prop} {Q : Exit → Act → World → Prop} {E : Prop}
    (hg : o.guard = none) (s x : Operand) (t : TypeId) (hop : o.op = Op.call { callee := Callee.builtin Builtin.append, args := #[s, x], argTypes := #[t, t] })
    (base : Nat) (e : TypeId) (i : TypeInfo) (z : Value) (size bytes : Nat) (ht : P.underlying t = some (.slice e)) (hi : P.info? e = some i) (hz : i.zero = some z)
    (hsize : i.size = size) (hby : i.bytes = bytes) (hzs : z.cells.size = size) (hsz : 0 < size)
    (v : Value) (n : Nat) (xs : List Value) (hs : a.eval s = v) (hown : w.ownsRow base e size v n xs)
    (ad : Addr) (m c : Nat) (news : List Value) (hx : a.eval x = .slice (some ad) m c) (hl : news.length = m * size) (hnews : ∀ j u, news[j]? = some u → w.cell? (ad.add j) = some u) (h1 : ∀ u ∈ news, u.oneCell' = true)
    (h63 : n + m ≤ maxLen) (hbytes : (n + m) * bytes ≤ 140737488355328) (hbase : base ≤ w.heap.size)
    (hK : ∀ v' w', w'.ownsRow base e size v' (n + m) (xs ++ news) → w.grownBy w' v.ownBlock → (v' = .slice none 0 0 ↔ v = .slice none 0 0 ∧ m = 0) → K (a.put o.dst v') w') :
    if Region.wanted o (yielded ops a.tmps) = true then Oper.wp P o a w K Q else E := by
  have hw : Region.wanted o (yielded ops a.tmps) = true := by simp [Region.wanted, hg]
  rw [if_pos hw]
  obtain ⟨v', w', hr, h2, h3, h4, _⟩ := run_append_own_at (P := P) w base t o.type e i z size bytes ht hi hz hsize hby hzs hsz v n xs hown ad m c news hl hnews h1 h63 hbytes hbase
  unfold Oper.wp
  simp [execOp, hop, resolve, invoke, builtin, hs, hx, hr, Result.andThen]
  exact hK v' w' h2 h3 h4

/-- The first column lies in W, and W lies over w. -/
abbrev BX (w : World) (bs : Nat) (c : ACol) (W : World) : Prop :=
  W.cell? ⟨bs, 0, none⟩ = some (.string c.nm) ∧ W.cell? ⟨bs, 1, none⟩ = some (.int .i64 c.kd) ∧ W.cell? ⟨bs, 2, none⟩ = some (.bool c.nd) ∧ W.cell? ⟨bs, 3, none⟩ = some (.bool c.oc) ∧
    W.cell? ⟨bs, 4, none⟩ = some (.int .i64 c.k) ∧ W.cell? ⟨bs, 5, none⟩ = some (.int .i64 c.n) ∧ W.cell? ⟨bs, 6, none⟩ = some (.string c.s) ∧ bs < w.heap.size ∧ Below w.heap.size w W
theorem BX.next {w : World} {bs : Nat} {c : ACol} {W W' : World} (h : BX w bs c W) (hb : Below w.heap.size W W') : BX w bs c W' := by
  obtain ⟨h0, h1, h2, h3, h4, h5, h6, h7, h8⟩ := h
  have hc : ∀ o, W'.cell? ⟨bs, o, none⟩ = W.cell? ⟨bs, o, none⟩ := fun o => hb.cell (p := ⟨bs, o, none⟩) h7
  exact ⟨(hc _).trans h0, (hc _).trans h1, (hc _).trans h2, (hc _).trans h3, (hc _).trans h4, (hc _).trans h5, (hc _).trans h6, h7, h8.trans hb⟩
theorem BX.alloc {w : World} {bs : Nat} {c : ACol} {W : World} (h : BX w bs c W) (o : Obj) : BX w bs c (W.alloc o) := BX.next h ((Below.refl _ _).alloc h.2.2.2.2.2.2.2.2.size _)
theorem BX.drew {w : World} {bs : Nat} {c : ACol} {W : World} (h : BX w bs c W) : BX w bs c W.drew := BX.next h (Below.refl _ _).drew
/-- What the region leaves: the columns and the first once more. -/
def XS (w : World) (S : List ACol) (c : ACol) (v : Value) (W : World) : Prop := OwnCols w.heap.size v (S ++ [c]) W ∧ Below w.heap.size w W
theorem xs_made {w W W' : World} {S : List ACol} {c : ACol} {v v' : Value} (hb : Below w.heap.size w W) (hown : W.ownsRow w.heap.size 30 7 v (0 + S.length) ([] ++ S.flatMap ACol.cells))
    (hown' : W'.ownsRow w.heap.size 30 7 v' (0 + S.length + 1) ([] ++ S.flatMap ACol.cells ++ c.cells)) (hg : W.grownBy W' v.ownBlock) (hne : v' ≠ .slice none 0 0) : XS w S c v' W' := by
  rw [Nat.zero_add, List.nil_append] at hown'
  exact ⟨own_snoc hown' hne, hb.grown hg hb.size (fun k hk => (World.ownsRow.lt hown k hk).1)⟩

/-- The columns lie in W in memory of the call's own, and W lies over w. -/
def YS (w : World) (v : Value) (L : List ACol) (W : World) : Prop := OwnCols w.heap.size v L W ∧ Below w.heap.size w W
theorem copy_made {w W W' : World} {S : List ACol} {v v' : Value} (hb : Below w.heap.size w W) (hown : W.ownsRow w.heap.size 30 7 v 0 [])
    (hown' : W'.ownsRow w.heap.size 30 7 v' (0 + S.length) ([] ++ S.flatMap ACol.cells)) (hg : W.grownBy W' v.ownBlock) (hne : v' ≠ .slice none 0 0) : YS w v' S W' := by
  rw [Nat.zero_add, List.nil_append] at hown'
  exact ⟨⟨hown', hne⟩, hb.grown hg hb.size (fun k hk => (World.ownsRow.lt hown k hk).1)⟩
def lenOf : Value → Nat
  | .slice _ n _ => n
  | _ => 0

theorem ys_cells {w W : World} {b n cap : Nat} {L : List ACol} {c : ACol} (h : YS w (.slice (some ⟨b, 0, none⟩) n cap) L W) (hc : L[0]? = some c) : Cells7 W b 0 c := by
  obtain ⟨hk, rfl⟩ := List.getElem?_eq_some_iff.1 hc
  obtain ⟨b', o', e, _, hr⟩ := h.1.at.at hk
  cases e
  exact cells7_of hr
theorem ys_soft {w W : World} {b cap : Nat} {L : List ACol} (h : YS w (.slice (some ⟨b, 0, none⟩) L.length cap) L W) (j : Nat) : W.frozen? ⟨b, j, none⟩ = false := World.ownsRow.frozenAt h.1.1 j
theorem YS.set {w W : World} {b cap : Nat} {L : List ACol} (h : YS w (.slice (some ⟨b, 0, none⟩) L.length cap) L W) (hb : w.heap.size ≤ b) {j : Nat} {c d : ACol} {u : Value} (hc : L[0]? = some c) (hd : d.cells = c.cells.set j u) (hj : j < 7) :
    YS w (.slice (some ⟨b, 0, none⟩) (L.set 0 d).length cap) (L.set 0 d) (W.setCell ⟨b, j, none⟩ u) := by
  obtain ⟨ho, hu⟩ := h
  have hs := World.ownsRow.stored ho.1 j u
  have hf := flat_set L 0 j c d u hc hd hj
  rw [Nat.zero_mul, Nat.zero_add] at hf
  rw [hf] at hs
  exact ⟨⟨by rw [List.length_set]; exact hs.1, by simp⟩, hu.grown hs.2 hu.size (fun k hk => by cases hk; exact hb)⟩

/-- A column of the name z and a letter. -/
def zcol (u : UInt8) : ACol := ⟨⟨#[122, u]⟩, 1, false, false, 0, 0, ⟨#[]⟩⟩
theorem zfit {Y : List ACol} (h : ∀ c ∈ Y, c.fit) (u : UInt8) : ∀ c ∈ Y ++ [zcol u], c.fit := fun c hc => by
  rcases List.mem_append.1 hc with h' | h'
  · exact h c h'
  · rw [List.mem_singleton] at h'
    subst h'
    exact ⟨by show 2 ≤ maxLen; decide, by show 0 ≤ maxLen; decide⟩
theorem conv_two (W : World) (n : Nat) (h : n ≤ 5) : ∃ u : UInt8,
    (convert 22 9 (.slice (some ⟨W.heap.size, 0, none⟩) 2 2)).run Try.prog (W.alloc (.cells #[.int .u8 122, .int .u8 (97 + (n : Int))] 5)) = .ok (.string ⟨#[122, u]⟩) (W.alloc (.cells #[.int .u8 122, .int .u8 (97 + (n : Int))] 5)) := by
  have hb : ((UInt8.ofNat (97 + n)).toNat : Int) = 97 + (n : Int) := by
    have : (UInt8.ofNat (97 + n)).toNat = 97 + n := by simp; omega
    omega
  exact ⟨_, run_convert_bytes_back _ _ _ 5 _ 2 [122, UInt8.ofNat (97 + n)] Try.underlying22 Try.underlying5 Try.underlying9 (fun j hj => by
    have : j = 0 ∨ j = 1 := by simp at hj; omega
    rcases this with rfl | rfl
    · simp [Addr.add, go_sem]
    · simp only [List.getElem_cons_succ, List.getElem_cons_zero, hb]; simp [Addr.add, go_sem])⟩
/-- The column, unlike in all rows, and one of its kind where none is told. -/
def once (c : ACol) : ACol := { c with oc := true, k := c.kd, n := 0, s := ⟨#[]⟩ }
theorem ys_four {w W : World} {b cap : Nat} {S : List ACol} {c : ACol} (h : YS w (.slice (some ⟨b, 0, none⟩) S.length cap) S W) (hb : w.heap.size ≤ b) (hc : S[0]? = some c) :
    YS w (.slice (some ⟨b, 0, none⟩) S.length cap) (S.set 0 (once c)) ((((W.setCell ⟨b, 3, none⟩ (.bool true)).setCell ⟨b, 4, none⟩ (.int .i64 c.kd)).setCell ⟨b, 5, none⟩ (.int .i64 0)).setCell ⟨b, 6, none⟩ (.string ⟨#[]⟩)) := by
  have hl : 0 < S.length := (List.getElem?_eq_some_iff.1 hc).1
  have e : ∀ (T : List ACol) (d : ACol), 0 < T.length → (T.set 0 d)[0]? = some d := fun T d h => List.getElem?_set_self h
  have h1 := h.set hb (j := 3) (d := { c with oc := true }) (u := .bool true) hc rfl (by decide)
  have h2 := h1.set hb (j := 4) (d := { c with oc := true, k := c.kd }) (u := .int .i64 c.kd) (e _ _ hl) rfl (by decide)
  have h3 := h2.set hb (j := 5) (d := { c with oc := true, k := c.kd, n := 0 }) (u := .int .i64 0) (e _ _ (by rw [List.length_set]; exact hl)) rfl (by decide)
  have h4 := h3.set hb (j := 6) (d := once c) (u := .string ⟨#[]⟩) (e _ _ (by rw [List.length_set, List.length_set]; exact hl)) rfl (by decide)
  simp only [List.set_set, List.length_set] at h4
  exact h4
theorem fit_more {S S' : List ACol} {c : ACol} (hf : ∀ d ∈ S, d.fit) (h : S = c :: S') : ∀ d ∈ S ++ [c], d.fit := fun d hd => by
  rcases List.mem_append.1 hd with h' | h'
  · exact hf d h'
  · rw [List.mem_singleton] at h'
    subst h'
    exact hf _ (by rw [h]; exact List.mem_cons_self)
theorem fit_once {S S' : List ACol} {c : ACol} (hf : ∀ d ∈ S, d.fit) (h : S = c :: S') : ∀ d ∈ S.set 0 (once c), d.fit := fun d hd => by
  rcases List.mem_or_eq_of_mem_set hd with h' | rfl
  · exact hf d h'
  · exact ⟨(hf c (by rw [h]; exact List.mem_cons_self)).1, by show 0 ≤ maxLen; decide⟩
/-- Four lists of columns lie in W, and W lies over w. -/
def CS (w : World) (bs bx b1 bz : Nat) (S X Y Z : List ACol) (W : World) : Prop :=
  ColsAt W (some ⟨bs, 0, none⟩) S ∧ ColsAt W (some ⟨bx, 0, none⟩) X ∧ ColsAt W (some ⟨b1, 0, none⟩) Y ∧ ColsAt W (some ⟨bz, 0, none⟩) Z ∧ Below w.heap.size w W
theorem CS.next {w : World} {bs bx b1 bz : Nat} {S X Y Z : List ACol} {W W' : World} (h : CS w bs bx b1 bz S X Y Z W) (hb : Below W.heap.size W W') : CS w bs bx b1 bz S X Y Z W' :=
  ⟨h.1.keep hb, h.2.1.keep hb, h.2.2.1.keep hb, h.2.2.2.1.keep hb, h.2.2.2.2.trans (hb.mono h.2.2.2.2.size)⟩
theorem shape_twice {S S' : List ACol} {c : ACol} (h : S = c :: S') : shapeOk (S ++ [c]) = false := by
  refine upto_bad (S ++ [c]) S.length c (by simp) (Or.inr ?_)
  have : placeOf (S ++ [c]) c.nm = (0 : Nat) := place_hit _ _ 0 c (by rw [h]; rfl) rfl (by simp [same])
  rw [this]
  rw [h]
  simp
  omega
theorem shape_many {Y : List ACol} (h : ¬ Y.length ≤ 5) : shapeOk Y = false := by
  cases hy : shapeOk Y
  · rfl
  · exact absurd (shape_firsts Y hy).2.2 h
theorem shape_once {S : List ACol} {d : ACol} (h : 1 ≤ S.length) (ho : d.oc = true) (hk : d.k = d.kd) : shapeOk (S.set 0 d) = false := by
  refine upto_bad (S.set 0 d) 0 d (by rw [List.getElem?_set_self (by omega)]) (Or.inl ?_)
  unfold ACol.ok colOk
  rw [ho, hk]
  by_cases h0 : d.kd = 0
  · simp [h0]
  · simp [h0]
theorem same_more (S : List ACol) (c : ACol) : shapeSame S (S ++ [c]) = false := by simp [shapeSame]

theorem eqC_comm (c d : ACol) : eqC c d = eqC d c := by
  unfold eqC
  rw [Bool.eq_iff_iff]
  simp only [Bool.and_eq_true, beq_iff_eq]
  constructor <;> (rintro ⟨h1, h2, h3, h4, h5, h6, h7⟩; exact ⟨h1.symm, h2.symm, h3.symm, h4.symm, h5.symm, h6.symm, h7.symm⟩)
theorem eqC_refl (c : ACol) : eqC c c = true := by simp [eqC]
theorem same_comm (L M : List ACol) : shapeSame M L = shapeSame L M := by
  by_cases h : L.length = M.length
  · have h1 : sameTo M L M.length = sameTo L M L.length := by
      rw [h]
      unfold sameTo
      congr 1
      funext i
      cases L[i]? <;> cases M[i]? <;> first | rfl | exact eqC_comm _ _
    simp only [shapeSame, h1]
    rw [h]
  · have h' : ¬ M.length = L.length := fun e => h e.symm
    simp [shapeSame, h, h']
theorem same_refl (L : List ACol) : shapeSame L L = true := by
  have : sameTo L L L.length = true := by
    unfold sameTo
    rw [List.all_eq_true]
    intro i hi
    rw [List.getElem?_eq_getElem (List.mem_range.1 hi)]
    exact eqC_refl _
  simp [shapeSame, this]

set_option maxRecDepth 100000 in
set_option maxHeartbeats 2000000 in
theorem law_bent (x : Option Addr) (len cap : Nat) (w : World) (hlc : len ≤ cap) (hcap : cap ≤ maxLen) (hc : IsCode w.heap.size x len w) :
    Calls Try.prog 3 #[.slice x len cap] w fun e w' => e = .returned (.bool true) ∧ Below w.heap.size w w' := by
  have hcap' := hcap
  unfold maxLen at hcap'
  by_cases hl : (1048576 : Int) < len
  · go_enter Try.func3, Try.ntmps3
    go_wp2_with fail
    go_ret
    exact ⟨rfl, Below.refl _ _⟩
  · have Hc : Hid (IsCode w.heap.size x len w) := hc
    clear hc
    go_enter Try.func3, Try.ntmps3
    go_wp2_with fail
    refine (draw_two x len cap w hlc hcap Hc.out).mono ?_
    rintro e w1 ⟨ba, ca, bb, cb, L, M, rfl, hL, hM, hl1, hl2, hs1, hs2, hb1⟩
    have H1 : Hid (ColsAt w1 (some ⟨ba, 0, none⟩) L ∧ ColsAt w1 (some ⟨bb, 0, none⟩) M ∧ Below w.heap.size w w1) := ⟨hL, hM, hb1⟩
    clear hL hM hb1
    go_wp2_with fail
    refine (draw_shape x len cap w.heap.size w1 H1.out.2.2.size hlc hcap (Hc.out.keep H1.out.2.2)).mono ?_
    rintro e w2 ⟨bs, cs, S, rfl, hS, hl3, hs3, hb2⟩
    have H2 : Hid (ColsAt w2 (some ⟨ba, 0, none⟩) L ∧ ColsAt w2 (some ⟨bb, 0, none⟩) M ∧ ColsAt w2 (some ⟨bs, 0, none⟩) S ∧ Below w.heap.size w w2) := ⟨H1.out.1.keep hb2, H1.out.2.1.keep hb2, hS, H1.out.2.2.trans (hb2.mono H1.out.2.2.size)⟩
    clear hS hb2 H1
    go_wp2_with fail
    refine (draw_col x len cap w.heap.size w2 H2.out.2.2.2.size hlc hcap (Hc.out.keep H2.out.2.2.2)).mono ?_
    rintro e w3 ⟨c, rfl, hsc, hb3⟩
    have b4 := alloc_below w3 (.cells #[.string c.nm, .int .i64 c.kd, .bool c.nd, .bool c.oc, .int .i64 c.k, .int .i64 c.n, .string c.s] 30)
    have h3 := H2.out.2.2.2.trans (hb3.mono H2.out.2.2.2.size)
    have H4 : Hid (BS w ba bb bs w3.heap.size L M S c (w3.alloc (.cells #[.string c.nm, .int .i64 c.kd, .bool c.nd, .bool c.oc, .int .i64 c.k, .int .i64 c.n, .string c.s] 30))) :=
      ⟨(H2.out.1.keep hb3).keep b4, (H2.out.2.1.keep hb3).keep b4, (H2.out.2.2.1.keep hb3).keep b4, own7_box _ _ _ _ _ _ _ _ _, by simp, h3.trans (b4.mono h3.size)⟩
    have hOwn := H4.out.2.2.2.1
    clear hb3 H2 b4 h3 Hc
    have hmL : L.length ≤ maxLen := by unfold maxLen; omega
    have hmM : M.length ≤ maxLen := by unfold maxLen; omega
    have hmS : S.length ≤ maxLen := by unfold maxLen; omega
    have hfS := small_fit hs3
    have hfc : c.fit := small_fit (L := [c]) (fun d hd => by rw [List.mem_singleton] at hd; subst hd; exact hsc) c (List.mem_singleton_self _)
    have hsym := same_comm L M
    have hrefl := same_refl S
    go_upto_region 6 with (fail)
    generalize w3.alloc (.cells #[.string c.nm, .int .i64 c.kd, .bool c.nd, .bool c.oc, .int .i64 c.k, .int .i64 c.n, .string c.s] 30) = w4 at *
    have inh : Nonempty (Over (BS w ba bb bs w3.heap.size L M S c)) := ⟨⟨_, H4.out⟩⟩
    have f0 : ∀ p : Over (BS w ba bb bs w3.heap.size L M S c), Own7 w3.heap.size c.nm c.kd c.nd c.oc c.k c.n c.s p.W := fun p => p.ok.2.2.2.1
    have hnil : ∀ p : Over (BS w ba bb bs w3.heap.size L M S c), Calls Try.prog 9 #[.slice none 0 0] p.W fun e w' => e = .returned (.bool false) ∧ Below p.W.heap.size p.W w' := fun p => impl_shape none 0 [] p.W (Or.inl rfl) (fun c hc => by simp at hc) (Nat.zero_le _)
    have k1 : ∀ p : Over (BS w ba bb bs w3.heap.size L M S c), ColsAt p.W (some ⟨ba, 0, none⟩) L := fun p => p.ok.1
    have k2 : ∀ p : Over (BS w ba bb bs w3.heap.size L M S c), ColsAt p.W (some ⟨bb, 0, none⟩) M := fun p => p.ok.2.1
    have k3 : ∀ p : Over (BS w ba bb bs w3.heap.size L M S c), ColsAt p.W (some ⟨bs, 0, none⟩) S := fun p => p.ok.2.2.1
    clear hOwn
    refine wp_region_over (S := BS w ba bb bs w3.heap.size L M S c) (by kernel_rfl) (by kernel_rfl) (H4.out.next (Below.refl _ _).drew) ?_
    repeat (go_big_quiet_step (first
      | (go_at_call 7; refine over_call (impl_same _ _ _ _ _ _ _ ?_ ?_ ?_ ?_) (fun _ h => BS.next (Over.ok _) h); all_goals (first | exact hmL | exact hmM | exact hmS | exact k1 _ | exact k2 _ | exact k3 _))
      | (go_at_call 8; refine over_call (spec_same _ _ _ _ _ _ _ ?_ ?_ ?_ ?_) (fun _ h => BS.next (Over.ok _) h); all_goals (first | exact hmL | exact hmM | exact hmS | exact k1 _ | exact k2 _ | exact k3 _))
      | (go_at_call_of 9 bs; exact over_call (impl_shape _ _ _ _ (k3 _) hfS hmS) (fun _ h => BS.next (Over.ok _) h))
      | (go_at_call_of 10 bs; exact over_call (spec_shape _ _ _ _ (k3 _) hfS hmS) (fun _ h => BS.next (Over.ok _) h))
      | (go_at_call 9; exact over_call (hnil _) (fun _ h => BS.next (Over.ok _) h))
      | (go_at_call 11; exact over_call (impl_col _ _ _ _ _ _ _ _ hfc.1 hfc.2) (fun _ h => BS.next (Over.ok _) h))
      | (go_at_call 12; exact over_call (spec_col _ _ _ _ _ _ _ _ hfc.1 hfc.2) (fun _ h => BS.next (Over.ok _) h))))
    refine wpQuiet_nil ?_
    rintro wq ⟨p, hp⟩
    have hq := p.ok
    rw [← hp] at hq
    have HQ : Hid (BS w ba bb bs w3.heap.size L M S c wq) := hq
    clear hp p f0 inh hq hnil H4 k1 k2 k3
    go_wp2_with fail
    refine (spec_shape _ _ _ _ HQ.out.2.2.1 hfS hmS).mono ?_
    rintro e w5 ⟨rfl, hb⟩
    have H5 : Hid (BS w ba bb bs w3.heap.size L M S c w5) := HQ.out.next hb
    clear HQ hb
    cases hsh : shapeOk S
    · go_wp2_with fail
      go_ret
      exact ⟨rfl, H5.out.2.2.2.2.2⟩
    · go_upto_region 10 with (fail)
      have hS1 := (shape_firsts S hsh).2.1
      have hS5 := (shape_firsts S hsh).2.2
      have hcons : ∃ c0 S', S = c0 :: S' := by
        cases hSS : S with
        | nil => rw [hSS] at hS1; simp at hS1
        | cons c0 S' => exact ⟨c0, S', rfl⟩
      obtain ⟨c0, S', hSc⟩ := hcons
      have HSc : Hid (S = c0 :: S') := hSc
      obtain ⟨bs', os', hab, hblS, hrS⟩ := H5.out.2.2.1.at (k := 0) (by omega)
      cases hab
      have hS0 : S[0]'(by omega) = c0 := by simp [hSc]
      rw [hS0] at hrS
      try simp only [Nat.zero_mul, Nat.add_zero] at hrS
      have hcc := cells7_of hrS
      try simp only [Nat.zero_add] at hcc
      clear hSc hS0 hrS
      have hBX : BX w5 bs c0 w5 := ⟨hcc.1, hcc.2.1, hcc.2.2.1, hcc.2.2.2.1, hcc.2.2.2.2.1, hcc.2.2.2.2.2.1, hcc.2.2.2.2.2.2, hblS, Below.refl _ _⟩
      clear hcc
      obtain ⟨i0, hi, hz, hsz, hby⟩ := Try.info30
      have hbya : (0 + S.length) * i0.bytes ≤ 140737488355328 := by
        have : (0 + S.length) * i0.bytes ≤ 5 * 128 := Nat.mul_le_mul (by omega) hby
        omega
      have hbyb : (0 + S.length + 1) * i0.bytes ≤ 140737488355328 := by
        have : (0 + S.length + 1) * i0.bytes ≤ 6 * 128 := Nat.mul_le_mul (by omega) hby
        omega
      have hma : 0 + S.length ≤ maxLen := by unfold maxLen; omega
      have hmb : 0 + S.length + 1 ≤ maxLen := by unfold maxLen; omega
      have aE := alloc_below w5 (.cells #[] 30)
      have aC := alloc_below w5 (.cells #[.string c0.nm, .int .i64 c0.kd, .bool c0.nd, .bool c0.oc, .int .i64 c0.k, .int .i64 c0.n, .string c0.s] 30)
      have aEC := aE.trans ((alloc_below (w5.alloc (.cells #[] 30)) (.cells #[.string c0.nm, .int .i64 c0.kd, .bool c0.nd, .bool c0.oc, .int .i64 c0.k, .int .i64 c0.n, .string c0.s] 30)).mono aE.size)
      have aCE := aC.trans ((alloc_below (w5.alloc (.cells #[.string c0.nm, .int .i64 c0.kd, .bool c0.nd, .bool c0.oc, .int .i64 c0.k, .int .i64 c0.n, .string c0.s] 30)) (.cells #[] 30)).mono aC.size)
      have zC : (w5.alloc (.cells #[.string c0.nm, .int .i64 c0.kd, .bool c0.nd, .bool c0.oc, .int .i64 c0.k, .int .i64 c0.n, .string c0.s] 30)).heap.size = w5.heap.size + 1 := by simp
      have zE : (w5.alloc (.cells #[] 30)).heap.size = w5.heap.size + 1 := by simp
      have o1 : (w5.alloc (.cells #[] 30)).ownsRow w5.heap.size 30 7 (.slice (some ⟨w5.heap.size, 0, none⟩) 0 0) 0 [] := World.ownsRow_made w5 #[] 0 (Nat.le_refl _) (Nat.zero_le _) rfl
      have o2 : ((w5.alloc (.cells #[] 30)).alloc (.cells #[.string c0.nm, .int .i64 c0.kd, .bool c0.nd, .bool c0.oc, .int .i64 c0.k, .int .i64 c0.n, .string c0.s] 30)).ownsRow w5.heap.size 30 7 (.slice (some ⟨w5.heap.size, 0, none⟩) 0 0) 0 [] := o1.alloc _
      have o3 : ((w5.alloc (.cells #[.string c0.nm, .int .i64 c0.kd, .bool c0.nd, .bool c0.oc, .int .i64 c0.k, .int .i64 c0.n, .string c0.s] 30)).alloc (.cells #[] 30)).ownsRow w5.heap.size 30 7 (.slice (some ⟨w5.heap.size + 1, 0, none⟩) 0 0) 0 [] := by
        have := World.ownsRow_made (base := w5.heap.size) (e := 30) (size := 7) (w5.alloc (.cells #[.string c0.nm, .int .i64 c0.kd, .bool c0.nd, .bool c0.oc, .int .i64 c0.k, .int .i64 c0.n, .string c0.s] 30)) #[] 0 aC.size (Nat.zero_le _) rfl
        rwa [zC] at this
      have n1 := flat_cells (H5.out.2.2.1.keep aE)
      have n2 := flat_cells (H5.out.2.2.1.keep aEC)
      have n3 := flat_cells (H5.out.2.2.1.keep aCE)
      have m2 : ∀ j u, c0.cells[j]? = some u → ((w5.alloc (.cells #[] 30)).alloc (.cells #[.string c0.nm, .int .i64 c0.kd, .bool c0.nd, .bool c0.oc, .int .i64 c0.k, .int .i64 c0.n, .string c0.s] 30)).cell? ((⟨w5.heap.size + 1, 0, none⟩ : Addr).add j) = some u := by
        have := new_cells (w5.alloc (.cells #[] 30)) c0 30
        rwa [zE] at this
      have m3 : ∀ j u, c0.cells[j]? = some u → ((w5.alloc (.cells #[.string c0.nm, .int .i64 c0.kd, .bool c0.nd, .bool c0.oc, .int .i64 c0.k, .int .i64 c0.n, .string c0.s] 30)).alloc (.cells #[] 30)).cell? ((⟨w5.heap.size, 0, none⟩ : Addr).add j) = some u := fun j u hu => by
        rw [Addr.add_mid, ((bcell (alloc_below (w5.alloc (.cells #[.string c0.nm, .int .i64 c0.kd, .bool c0.nd, .bool c0.oc, .int .i64 c0.k, .int .i64 c0.n, .string c0.s] 30)) (.cells #[] 30))).1 _ _ (by omega)), ← Addr.add_mid]
        exact new_cells w5 c0 30 j u hu
      clear zC zE
      go_region_held_law (fun W => BX w5 bs c0 W) (first | assumption | exact BX.drew (by assumption) | exact BX.alloc (by assumption) _ | exact BX.drew (BX.alloc (by assumption) _))
        (first
          | (refine step_append_own rfl _ _ 23 rfl w5.heap.size 30 i0 _ 7 i0.bytes Try.underlying23 hi hz hsz rfl rfl (by decide) v6 (0 + S.length) ([] ++ S.flatMap ACol.cells) rfl hown6 _ 1 1 c0.cells rfl rfl nB (cells_one _) hmb hbyb hB6.size ?_; intro v7 w7 hown7 hg7 hn7; have HX : Hid (XS w5 S c0 v7 w7) := xs_made hB6 hown6 hown7 hg7 (fun e => by have := (hn7.1 e).2; omega); have hX7 : BX w5 bs c0 w7 := BX.next hBX HX.out.2; clear hown7 hg7 hn7 hown6 hg6 hn6 nB)
          | (refine step_append_own rfl _ _ 23 rfl w5.heap.size 30 i0 _ 7 i0.bytes Try.underlying23 hi hz hsz rfl rfl (by decide) v6 (0 + S.length) ([] ++ S.flatMap ACol.cells) rfl (hown6.alloc _) ⟨w6.heap.size, 0, none⟩ 1 1 c0.cells rfl rfl (new_cells w6 c0 30) (cells_one _) hmb hbyb (Nat.le_trans hB6.size (alloc_below _ _).size) ?_; intro v7 w7 hown7 hg7 hn7; have HX : Hid (XS w5 S c0 v7 w7) := xs_made (hB6.trans ((alloc_below _ _).mono hB6.size)) (hown6.alloc _) hown7 hg7 (fun e => by have := (hn7.1 e).2; omega); have hX7 : BX w5 bs c0 w7 := BX.next hBX HX.out.2; clear hown7 hg7 hn7 hown6 hg6 hn6)
          | (refine step_append_own rfl _ _ 23 rfl w5.heap.size 30 i0 _ 7 i0.bytes Try.underlying23 hi hz hsz rfl rfl (by decide) (.slice (some ⟨w5.heap.size, 0, none⟩) 0 0) 0 [] rfl o1 ⟨bs, 0, none⟩ S.length cs (S.flatMap ACol.cells) rfl (flat_len S) n1 (flat_one S) hma hbya aE.size ?_; intro v6 w6 hown6 hg6 hn6; have hB6 : Below w5.heap.size w5 w6 := aE.drew.grown hg6 aE.size (fun k hk => (World.ownsRow.lt o1 k hk).1); have hX6 : BX w5 bs c0 w6 := BX.next hBX hB6; clear o1 o2 o3 n1 n2 n3 m2 m3)
          | (refine step_append_own rfl _ _ 23 rfl w5.heap.size 30 i0 _ 7 i0.bytes Try.underlying23 hi hz hsz rfl rfl (by decide) (.slice (some ⟨w5.heap.size, 0, none⟩) 0 0) 0 [] rfl o2 ⟨bs, 0, none⟩ S.length cs (S.flatMap ACol.cells) rfl (flat_len S) n2 (flat_one S) hma hbya aEC.size ?_; intro v6 w6 hown6 hg6 hn6; have hB6 : Below w5.heap.size w5 w6 := aEC.drew.grown hg6 aEC.size (fun k hk => (World.ownsRow.lt o2 k hk).1); have hX6 : BX w5 bs c0 w6 := BX.next hBX hB6; have nB : ∀ j u, c0.cells[j]? = some u → w6.cell? ((⟨w5.heap.size + 1, 0, none⟩ : Addr).add j) = some u := fun j u hu => hg6.cell (m2 j u hu) (by rw [Addr.add_mid]; simp [Value.ownBlock]); clear o1 o2 o3 n1 n2 n3 m2 m3)
          | (refine step_append_own rfl _ _ 23 rfl w5.heap.size 30 i0 _ 7 i0.bytes Try.underlying23 hi hz hsz rfl rfl (by decide) (.slice (some ⟨w5.heap.size + 1, 0, none⟩) 0 0) 0 [] rfl o3 ⟨bs, 0, none⟩ S.length cs (S.flatMap ACol.cells) rfl (flat_len S) n3 (flat_one S) hma hbya aCE.size ?_; intro v6 w6 hown6 hg6 hn6; have hB6 : Below w5.heap.size w5 w6 := aCE.drew.grown hg6 aCE.size (fun k hk => (World.ownsRow.lt o3 k hk).1); have hX6 : BX w5 bs c0 w6 := BX.next hBX hB6; have nB : ∀ j u, c0.cells[j]? = some u → w6.cell? ((⟨w5.heap.size, 0, none⟩ : Addr).add j) = some u := fun j u hu => hg6.cell (m3 j u hu) (by rw [Addr.add_mid]; simp [Value.ownBlock]); clear o1 o2 o3 n1 n2 n3 m2 m3))
      all_goals
        obtain ⟨bx, cx, rfl, hbx, hcx⟩ := HX.out.1.cols
        have H7 : Hid (ColsAt w7 (some ⟨bs, 0, none⟩) S ∧ ColsAt w7 (some ⟨bx, 0, none⟩) (S ++ [c0]) ∧ Below w.heap.size w w7) :=
          ⟨H5.out.2.2.1.keep HX.out.2, hcx, H5.out.2.2.2.2.2.trans (HX.out.2.mono H5.out.2.2.2.2.2.size)⟩
        clear HX hcx hbx hX6 hX7 hB6 H5 hBX aE aC aEC aCE hblS
        have b0 := alloc_below w7 (.cells #[] 30)
        have hown0 : (w7.alloc (.cells #[] 30)).ownsRow w7.heap.size 30 7 (.slice (some ⟨w7.heap.size, 0, none⟩) 0 0) 0 [] := World.ownsRow_made w7 #[] 0 (Nat.le_refl _) (Nat.zero_le _) rfl
        have hb0 := b0.size
        have hnews := flat_cells (H7.out.1.keep b0)
        go_wp2_with (at_builtin; refine wpList_append_own_at _ rfl _ _ 23 rfl w7.heap.size 30 i0 _ 7 i0.bytes Try.underlying23 hi hz hsz rfl rfl (by decide) (.slice (some ⟨w7.heap.size, 0, none⟩) 0 0) 0 [] rfl hown0 ⟨bs, 0, none⟩ S.length cs (S.flatMap ACol.cells) rfl (flat_len S) hnews (flat_one S) hma hbya hb0 ?_; intro v8 w8 hown8 hg8 hn8 _; have H8 : Hid (YS w7 v8 S w8) := copy_made b0 hown0 hown8 hg8 (fun e => by have := (hn8.1 e).1; simp at this); clear hown8 hg8 hn8 hown0 hnews b0 hb0)
        go_loopw [8] (fun y wr => ∃ Y : List ACol, Y.length ≤ 6 ∧ (∀ c ∈ Y, c.fit) ∧ Hid (YS w7 y Y wr)) (fun y _ => 6 - lenOf y)
        case atStart => exact ⟨S, by omega, hfS, H8⟩
        case round =>
          obtain ⟨Y, hY6, hYf, hH⟩ := hrel
          clear H8
          by_cases hY5 : Y.length ≤ 5
          · have hY5' : (Y.length : Int) ≤ 5 := by omega
            obtain ⟨b00, cy, rfl, hb00, hcols⟩ := hH.out.1.cols
            generalize (some (⟨b00, 0, none⟩ : Addr)) = a0 at *
            have HS : Hid (YS w7 (.slice a0 Y.length cy) Y wr) := hH
            clear hcols hH
            obtain ⟨u, hcv⟩ := conv_two wr Y.length hY5
            have b1 := alloc_below wr (.cells #[.int .u8 122, .int .u8 (97 + (Y.length : Int))] 5)
            have b2 := alloc_below (wr.alloc (.cells #[.int .u8 122, .int .u8 (97 + (Y.length : Int))] 5)) (.cells #[.string ⟨#[122, u]⟩, .int .i64 1, .bool false, .bool false, .int .i64 0, .int .i64 0, .string ⟨#[]⟩] 30)
            have hbA := HS.out.2.trans ((b1.trans (b2.mono b1.size)).mono HS.out.2.size)
            have hownA := (HS.out.1.1.alloc (.cells #[.int .u8 122, .int .u8 (97 + (Y.length : Int))] 5)).alloc (.cells #[.string ⟨#[122, u]⟩, .int .i64 1, .bool false, .bool false, .int .i64 0, .int .i64 0, .string ⟨#[]⟩] 30)
            have hnewsA := new_cells (wr.alloc (.cells #[.int .u8 122, .int .u8 (97 + (Y.length : Int))] 5)) (zcol u) 30
            have zA : (wr.alloc (.cells #[.int .u8 122, .int .u8 (97 + (Y.length : Int))] 5)).heap.size = wr.heap.size + 1 := by simp
            rw [zA] at hnewsA
            have hszA := hbA.size
            have hbyA : (Y.length + 1) * i0.bytes ≤ 140737488355328 := by
              have : (Y.length + 1) * i0.bytes ≤ 6 * 128 := Nat.mul_le_mul (by omega) hby
              omega
            clear b1 b2 zA
            go_wp2_with (at_builtin; refine wpList_append_own_at _ rfl _ _ 23 rfl w7.heap.size 30 i0 _ 7 i0.bytes Try.underlying23 hi hz hsz rfl rfl (by decide) (.slice a0 Y.length cy) Y.length (Y.flatMap ACol.cells) rfl hownA ⟨wr.heap.size + 1, 0, none⟩ 1 1 (zcol u).cells rfl rfl hnewsA (cells_one _) (by unfold maxLen; omega) hbyA hszA ?_; intro v9 w9 hown9 hg9 hn9 _)
            have HF : Hid (YS w7 v9 (Y ++ [zcol u]) w9) := ⟨own_snoc hown9 (fun e => by have := (hn9.1 e).2; omega), hbA.grown hg9 hbA.size (fun k hk => (World.ownsRow.lt hownA k hk).1)⟩
            clear hown9 hg9 hn9 hownA hnewsA hbA hszA hbyA hcv HS
            obtain ⟨b9, c9, rfl, _, _⟩ := HF.out.1.cols
            go_wp2_with fail
            go_roundw
            case rel => exact ⟨_, by simp; omega, zfit hYf _, HF⟩
            case measure => simp [lenOf]; omega
          · have hY5' : (5 : Int) < Y.length := by omega
            obtain ⟨b00, cy, rfl, hb00, hcols⟩ := hH.out.1.cols
            have HW : Hid (ColsAt wr (some ⟨bs, 0, none⟩) S ∧ ColsAt wr (some ⟨bx, 0, none⟩) (S ++ [c0]) ∧ ColsAt wr (some ⟨b00, 0, none⟩) Y ∧ Below w.heap.size w wr) :=
              ⟨H7.out.1.keep hH.out.2, H7.out.2.1.keep hH.out.2, hcols, H7.out.2.2.trans (hH.out.2.mono H7.out.2.2.size)⟩
            clear hcols hH H7
            have b0 := alloc_below wr (.cells #[] 30)
            have hown0 : (wr.alloc (.cells #[] 30)).ownsRow wr.heap.size 30 7 (.slice (some ⟨wr.heap.size, 0, none⟩) 0 0) 0 [] := World.ownsRow_made wr #[] 0 (Nat.le_refl _) (Nat.zero_le _) rfl
            have hb0 := b0.size
            have hnews := flat_cells (HW.out.1.keep b0)
            have hS1' : (0 : Int) < S.length := by omega
            go_upto_region 15 with (at_builtin; refine wpList_append_own_at _ rfl _ _ 23 rfl wr.heap.size 30 i0 _ 7 i0.bytes Try.underlying23 hi hz hsz rfl rfl (by decide) (.slice (some ⟨wr.heap.size, 0, none⟩) 0 0) 0 [] rfl hown0 ⟨bs, 0, none⟩ S.length cs (S.flatMap ACol.cells) rfl (flat_len S) hnews (flat_one S) hma hbya hb0 ?_; intro v10 w10 hown10 hg10 hn10 _; have H10 : Hid (YS wr v10 S w10) := copy_made b0 hown0 hown10 hg10 (fun e => by have := (hn10.1 e).1; simp at this); clear hown10 hg10 hn10 hown0 hnews b0 hb0)
            obtain ⟨bz, cz, rfl, hbz, hcz⟩ := H10.out.1.cols
            have hS0 : S[0]? = some c0 := by rw [HSc.out]; rfl
            have hcell : Cells7 w10 bz 0 c0 := ys_cells H10.out hS0
            have hfz := ys_soft H10.out
            clear hcz
            go_upto_region 17 with (fail)
            have hZ := ys_four H10.out hbz hS0
            clear hcell hfz H10
            generalize (((w10.setCell ⟨bz, 3, none⟩ (.bool true)).setCell ⟨bz, 4, none⟩ (.int .i64 c0.kd)).setCell ⟨bz, 5, none⟩ (.int .i64 0)).setCell ⟨bz, 6, none⟩ (.string ⟨#[]⟩) = w11 at *
            have HC : Hid (CS w bs bx b00 bz S (S ++ [c0]) Y (S.set 0 (once c0)) w11) := ⟨HW.out.1.keep hZ.2, HW.out.2.1.keep hZ.2, HW.out.2.2.1.keep hZ.2, hZ.1.at, HW.out.2.2.2.trans (hZ.2.mono HW.out.2.2.2.size)⟩
            clear hZ HW
            have kx : ∀ W, CS w bs bx b00 bz S (S ++ [c0]) Y (S.set 0 (once c0)) W → Calls Try.prog 9 #[.slice (some ⟨bx, 0, none⟩) (S.length + 1) cx] W fun e w' => e = .returned (.bool false) ∧ Below W.heap.size W w' := fun W h => by
              have := impl_shape (some ⟨bx, 0, none⟩) cx (S ++ [c0]) W h.2.1 (fit_more hfS HSc.out) (by simp only [List.length_append, List.length_singleton]; omega)
              rwa [shape_twice HSc.out, List.length_append, List.length_singleton] at this
            have ky : ∀ W, CS w bs bx b00 bz S (S ++ [c0]) Y (S.set 0 (once c0)) W → Calls Try.prog 9 #[.slice (some ⟨b00, 0, none⟩) Y.length cy] W fun e w' => e = .returned (.bool false) ∧ Below W.heap.size W w' := fun W h => by
              have := impl_shape (some ⟨b00, 0, none⟩) cy Y W h.2.2.1 hYf (by unfold maxLen; omega)
              rwa [shape_many hY5] at this
            have kz : ∀ W, CS w bs bx b00 bz S (S ++ [c0]) Y (S.set 0 (once c0)) W → Calls Try.prog 9 #[.slice (some ⟨bz, 0, none⟩) S.length cz] W fun e w' => e = .returned (.bool false) ∧ Below W.heap.size W w' := fun W h => by
              have := impl_shape (some ⟨bz, 0, none⟩) cz (S.set 0 (once c0)) W h.2.2.2.1 (fit_once hfS HSc.out) (by rw [List.length_set]; exact hmS)
              rwa [shape_once hS1 rfl rfl, List.length_set] at this
            have ks : ∀ W, CS w bs bx b00 bz S (S ++ [c0]) Y (S.set 0 (once c0)) W → Calls Try.prog 7 #[.slice (some ⟨bs, 0, none⟩) S.length cs, .slice (some ⟨bx, 0, none⟩) (S.length + 1) cx] W fun e w' => e = .returned (.bool false) ∧ Below W.heap.size W w' := fun W h => by
              have := impl_same (some ⟨bs, 0, none⟩) (some ⟨bx, 0, none⟩) cs cx S (S ++ [c0]) W h.1 h.2.1 hmS (by simp only [List.length_append, List.length_singleton]; omega)
              rwa [same_more, List.length_append, List.length_singleton] at this
            have Kx : Hid _ := kx
            have Ky : Hid _ := ky
            have Kz : Hid _ := kz
            have Ks : Hid _ := ks
            clear kx ky kz ks
            go_wp2_with fail
            refine (Kx.out _ HC.out).mono ?_
            rintro e w12 ⟨rfl, hb12⟩
            have H12 := hid (HC.out.next hb12)
            clear hb12
            go_wp2_with fail
            refine (Ky.out _ H12.out).mono ?_
            rintro e w13 ⟨rfl, hb13⟩
            have H13 := hid (H12.out.next hb13)
            clear hb13
            go_wp2_with fail
            refine (Kz.out _ H13.out).mono ?_
            rintro e w14 ⟨rfl, hb14⟩
            have H14 := hid (H13.out.next hb14)
            clear hb14
            go_wp2_with fail
            refine (Ks.out _ H14.out).mono ?_
            rintro e w15 ⟨rfl, hb15⟩
            have H15 := hid (H14.out.next hb15)
            clear hb15
            go_wp2_with fail
            go_ret
            exact ⟨rfl, H15.out.2.2.2.2⟩

end Go.Proofs.Ytgigikmdipjffaa
