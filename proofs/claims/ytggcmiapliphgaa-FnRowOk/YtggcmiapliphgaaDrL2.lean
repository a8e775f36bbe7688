/- The walk of laws.FnRowOk, over the seat's translation. -/
import Derived.Test.YtggcmiapliphgaaDrV3
import Derived.Test.YtggcmiapliphgaaRwS5
namespace Go.Proofs.Ytggcmiapliphgaa
open Go.RowKit

theorem small_fit {L : List ACol} (h : ∀ c ∈ L, c.small) : ∀ c ∈ L, c.fit := fun c hc => by
  have := h c hc
  unfold ACol.small at this
  unfold ACol.fit maxLen
  omega
theorem smallv_fit {V : List AVal} (h : ∀ v ∈ V, v.small) : ∀ v ∈ V, v.fit := fun v hv => by
  have := h v hv
  unfold AVal.small at this
  unfold AVal.fit maxLen
  omega

/-- Columns and values lie in W, and W lies over w. -/
def RS (w : World) (a b : Option Addr) (L : List ACol) (V : List AVal) (W : World) : Prop := ColsAt W a L ∧ ValsAt W b V ∧ Below w.heap.size w W
theorem RS.next {w : World} {a b : Option Addr} {L : List ACol} {V : List AVal} {W W' : World} (h : RS w a b L V W) (hb : Below W.heap.size W W') : RS w a b L V W' := ⟨h.1.keep hb, h.2.1.keep hb, h.2.2.trans (hb.mono h.2.2.size)⟩

theorem row_parts {L : List ACol} {V : List AVal} (h : rowOk L V = true) : shapeOk L = true ∧ V.length = L.length ∧ ∀ (i : Nat) (c : ACol) (v : AVal), L[i]? = some c → V[i]? = some v → oneOk c v = true := by
  simp only [rowOk, Bool.and_eq_true, decide_eq_true_eq] at h
  refine ⟨h.1, h.2.1, fun i c v hc hv => ?_⟩
  have h2 := h.2.2
  unfold rowTo at h2
  rw [List.all_eq_true] at h2
  have := h2 i (List.mem_range.2 (List.getElem?_eq_some_iff.1 hc).1)
  rw [hc, hv] at this
  exact this
theorem row_set {L : List ACol} {V : List AVal} (h : rowOk L V = true) (i : Nat) (c : ACol) (z : AVal) (hc : L[i]? = some c) : rowOk L (V.set i z) = oneOk c z := by
  obtain ⟨h1, h2, h3⟩ := row_parts h
  have hi : i < L.length := (List.getElem?_eq_some_iff.1 hc).1
  rw [Bool.eq_iff_iff]
  simp only [rowOk, h1, List.length_set, h2, decide_true, Bool.true_and]
  unfold rowTo
  rw [List.all_eq_true]
  constructor
  · intro hx
    have := hx i (List.mem_range.2 hi)
    rw [hc, List.getElem?_set_self (by omega)] at this
    exact this
  · intro hz j hj
    have hj' := List.mem_range.1 hj
    by_cases hij : i = j
    · subst hij
      rw [hc, List.getElem?_set_self (by omega)]
      exact hz
    · rw [List.getElem?_set_ne hij, List.getElem?_eq_getElem hj', List.getElem?_eq_getElem (show j < V.length by omega)]
      exact h3 j _ _ (List.getElem?_eq_getElem hj') (List.getElem?_eq_getElem (by omega))
theorem one_none (c : ACol) : oneOk c ⟨0, 0, ⟨#[]⟩⟩ = !c.nd := by
  have : valOk 0 0 ⟨#[]⟩ = true := by simp [valOk, ByteArray.toList_eq]
  simp [oneOk, AVal.ok, this]
theorem kd_of {L : List ACol} (h : shapeOk L = true) (i : Nat) (c : ACol) (hc : L[i]? = some c) : c.kd = 1 ∨ c.kd = 2 := by
  simp only [shapeOk, Bool.and_eq_true] at h
  have := ((upto_iff L L.length (Nat.le_refl _)).1 h.1).1 i c (List.getElem?_eq_some_iff.1 hc).1 hc
  unfold ACol.ok colOk at this
  simp only [Bool.and_eq_true, Bool.or_eq_true, beq_iff_eq] at this
  exact this.2.1
theorem one_other {c : ACol} (h : c.kd = 1 ∨ c.kd = 2) : oneOk c ⟨3 - c.kd, 0, ⟨#[]⟩⟩ = false := by
  have h1 : ((3 - c.kd) == 0) = false := beq_eq_false_iff_ne.2 (by omega)
  have h2 : ((3 - c.kd) == c.kd) = false := beq_eq_false_iff_ne.2 (by omega)
  simp [oneOk, h1, h2]
theorem row_len {L : List ACol} {V U : List AVal} (h : rowOk L V = true) (hu : U.length ≠ V.length) : rowOk L U = false := by
  have h2 := (row_parts h).2.1
  simp [rowOk, show ¬ U.length = L.length by omega]

theorem ValsAt.keepB {W W' : World} {b o B : Nat} {V : List AVal} (h : ValsAt W (some ⟨b, o, none⟩) V) (hb : Below B W W') (hlt : b < B) : ValsAt W' (some ⟨b, o, none⟩) V := by
  rcases h with h | ⟨b', o', e, hl, hr⟩
  · exact Or.inl h
  · cases e
    refine Or.inr ⟨b, o, rfl, Nat.lt_of_lt_of_le hl hb.size, fun i c hc j v hv => ?_⟩
    rw [hb.cell (p := ⟨b, _, none⟩) hlt]
    exact hr i c hc j v hv
theorem ColsAt.keepB {W W' : World} {b o B : Nat} {L : List ACol} (h : ColsAt W (some ⟨b, o, none⟩) L) (hb : Below B W W') (hlt : b < B) : ColsAt W' (some ⟨b, o, none⟩) L := by
  rcases h with h | ⟨b', o', e, hl, hr⟩
  · exact Or.inl h
  · cases e
    refine Or.inr ⟨b, o, rfl, Nat.lt_of_lt_of_le hl hb.size, fun i c hc j v hv => ?_⟩
    rw [hb.cell (p := ⟨b, _, none⟩) hlt]
    exact hr i c hc j v hv

theorem vals_lt {W : World} {b o : Nat} {V : List AVal} (h : ValsAt W (some ⟨b, o, none⟩) V) : V = [] ∨ b < W.heap.size := by
  rcases h with h | ⟨b', o', e, hl, _⟩
  · exact Or.inl h
  · cases e
    exact Or.inr hl
theorem vals_keep {W W' : World} {b o : Nat} {V : List AVal} (h : ValsAt W (some ⟨b, o, none⟩) V) (hb : Below W.heap.size W W') : ValsAt W' (some ⟨b, o, none⟩) V := h.keep hb

/-- A copy of values that is the call's own: what lay below it lies as in w. -/
def Copy (w : World) (base b1 cap1 : Nat) (V : List AVal) (W : World) : Prop := OwnVals base (.slice (some ⟨b1, 0, none⟩) V.length cap1) V W ∧ Below base w W ∧ base ≤ b1 ∧ b1 < W.heap.size
theorem copy_made {w W w1 : World} {V : List AVal} {v0 v' : Value} (hb : Below w.heap.size w W) (hown0 : W.ownsRow w.heap.size 29 3 v0 0 []) (hn0 : v0 ≠ .slice none 0 0)
    (hown1 : w1.ownsRow w.heap.size 29 3 v' (0 + V.length) ([] ++ V.flatMap AVal.cells)) (hgrow : W.grownBy w1 v0.ownBlock) (hnil : v' = .slice none 0 0 ↔ v0 = .slice none 0 0 ∧ V.length = 0) :
    ∃ b1 cap1, v' = .slice (some ⟨b1, 0, none⟩) V.length cap1 ∧ Hid (Copy w w.heap.size b1 cap1 V w1) := by
  have hne1 : v' ≠ .slice none 0 0 := fun e => hn0 (hnil.1 e).1
  have hO1 : OwnVals w.heap.size v' V w1 := ⟨by rw [Nat.zero_add, List.nil_append] at hown1; exact hown1, hne1⟩
  have hb1 := hb.grown hgrow hb.size (fun k hk => (World.ownsRow.lt hown0 k hk).1)
  obtain ⟨b1, cap1, rfl, hbb, _⟩ := hO1.cols
  exact ⟨b1, cap1, rfl, hO1, hb1, hbb, (World.ownsRow.lt hO1.1 b1 rfl).2⟩
theorem Copy.set {w : World} {base b1 cap1 : Nat} {V : List AVal} {W : World} (h : Copy w base b1 cap1 V W) {k j : Nat} {c d : AVal} {u : Value} (hc : V[k]? = some c) (hd : d.cells = c.cells.set j u) (hj : j < 3) :
    Copy w base b1 cap1 (V.set k d) (W.setCell ⟨b1, k * 3 + j, none⟩ u) := by
  obtain ⟨ho, hb, h1, h2⟩ := h
  have hs := World.ownsRow.stored ho.1 (k * 3 + j) u
  rw [flatv_set V k j c d u hc hd hj] at hs
  exact ⟨⟨by rw [List.length_set]; exact hs.1, by simp⟩, hb.setCell h1 u, h1, by rw [show (W.setCell ⟨b1, k * 3 + j, none⟩ u).heap.size = W.heap.size by simp]; exact h2⟩
theorem Copy.put {w : World} {base b1 cap1 : Nat} {V : List AVal} {W : World} (h : Copy w base b1 cap1 V W) {k : Nat} (hk : k < V.length) (x y : Int) (s : ByteArray) :
    Copy w base b1 cap1 (V.set k ⟨x, y, s⟩) (((W.setCell ⟨b1, k * 3, none⟩ (.int .i64 x)).setCell ⟨b1, k * 3 + 1, none⟩ (.int .i64 y)).setCell ⟨b1, k * 3 + 2, none⟩ (.string s)) := by
  have hc := List.getElem?_eq_getElem hk
  revert hc
  generalize V[k] = c
  intro hc
  have h1 := h.set (k := k) (j := 0) (d := { c with k := x }) (u := .int .i64 x) hc rfl (by decide)
  have h2 := h1.set (k := k) (j := 1) (c := { c with k := x }) (d := { c with k := x, n := y }) (u := .int .i64 y) (by rw [List.getElem?_set_self hk]) rfl (by decide)
  have h3 := h2.set (k := k) (j := 2) (c := { c with k := x, n := y }) (d := ⟨x, y, s⟩) (u := .string s) (by rw [List.getElem?_set_self (by rw [List.length_set]; exact hk)]) rfl (by decide)
  rw [List.set_set, List.set_set] at h3
  exact h3
theorem Copy.cells {w : World} {base b1 cap1 : Nat} {V : List AVal} {W : World} (h : Copy w base b1 cap1 V W) {k : Nat} (hk : k < V.length) : ∃ c, Cells3 W b1 (k * 3) c := by
  obtain ⟨b', o', e, _, hr⟩ := h.1.at.at hk
  cases e
  rw [Nat.zero_add] at hr
  exact ⟨_, cells3_of hr⟩
theorem Copy.soft {w : World} {base b1 cap1 : Nat} {V : List AVal} {W : World} (h : Copy w base b1 cap1 V W) (j : Nat) : W.frozen? ⟨b1, j, none⟩ = false := World.ownsRow.frozenAt h.1.1 j

theorem wpList_append_want {P : Program} (w : World) {ops : Array Oper} {rest : List Oper} {o : Oper} {a : Act} {Q : Exit → Act → World → Prop} (hw : Region.wanted o (yielded ops a.tmps) = true) (s x : Operand) (t : TypeId)
    (ho : o.op = .call { callee := .builtin .append, args := #[s, x], argTypes := #[t, t] })
    (base : Nat) (e : TypeId) (i : TypeInfo) (z : Value) (size bytes : Nat) (ht : P.underlying t = some (.slice e)) (hi : P.info? e = some i) (hz : i.zero = some z)
    (hsize : i.size = size) (hby : i.bytes = bytes) (hzs : z.cells.size = size) (hsz : 0 < size)
    (v : Value) (n : Nat) (xs : List Value) (hs : a.eval s = v) (hown : w.ownsRow base e size v n xs)
    (ad : Addr) (m c : Nat) (news : List Value) (hx : a.eval x = .slice (some ad) m c) (hl : news.length = m * size) (hnews : ∀ j u, news[j]? = some u → w.cell? (ad.add j) = some u) (h1 : ∀ u ∈ news, u.oneCell' = true)
    (h63 : n + m ≤ maxLen) (hbytes : (n + m) * bytes ≤ 140737488355328) (hbase : base ≤ w.heap.size)
    (h : ∀ v' w', w'.ownsRow base e size v' (n + m) (xs ++ news) → w.grownBy w' v.ownBlock → (v' = .slice none 0 0 ↔ v = .slice none 0 0 ∧ m = 0) → wpList P ops Q rest (a.put o.dst v') w') :
    wpList P ops Q (o :: rest) a w := by
  refine BigFrame.wpList_want hw fun K hK => ?_
  obtain ⟨v', w', hr, h2, h3, h4, _⟩ := run_append_own_at (P := P) w base t o.type e i z size bytes ht hi hz hsize hby hzs hsz v n xs hown ad m c news hl hnews h1 h63 hbytes hbase
  unfold Oper.wp execOp
  simp only [ho, resolve, invoke, builtin, Sem.run_bind, Sem.run_pure, Result.andThen_ok, List.map_toArray, List.map_cons, List.map_nil, hs, hx, hr]
  exact hK _ _ (h v' w' h2 h3 h4)

/-- Columns, values and two copies of them lie in W, and W lies over w. -/
def RC (w : World) (bs bv ov bx bY k : Nat) (L : List ACol) (V X Y : List AVal) (c : ACol) (W : World) : Prop :=
  ColsAt W (some ⟨bs, 0, none⟩) L ∧ ValsAt W (some ⟨bv, ov, none⟩) V ∧ ValsAt W (some ⟨bx, 0, none⟩) X ∧ ValsAt W (some ⟨bY, 0, none⟩) Y ∧ Cells7 W bs (k * 7) c ∧ bs < W.heap.size ∧ Below w.heap.size w W
theorem RC.next {w : World} {bs bv ov bx bY k : Nat} {L : List ACol} {V X Y : List AVal} {c : ACol} {W W' : World} (h : RC w bs bv ov bx bY k L V X Y c W) (hb : Below W.heap.size W W') : RC w bs bv ov bx bY k L V X Y c W' := by
  obtain ⟨h1, h2, h3, h4, h5, h6, h7⟩ := h
  exact ⟨h1.keep hb, h2.keep hb, h3.keep hb, h4.keep hb, cells7_next h5 h6 hb, Nat.lt_of_lt_of_le h6 hb.size, h7.trans (hb.mono h7.size)⟩
theorem fit_set {V : List AVal} (h : ∀ v ∈ V, v.fit) (k : Nat) {d : AVal} (hd : d.fit) : ∀ c ∈ V.set k d, c.fit := fun c hc => by
  rcases List.mem_or_eq_of_mem_set hc with hc | rfl
  · exact h c hc
  · exact hd
theorem none_fit (x y : Int) : (⟨x, y, ⟨#[]⟩⟩ : AVal).fit := by
  unfold AVal.fit maxLen
  show (⟨#[]⟩ : ByteArray).size ≤ _
  exact Nat.zero_le _

theorem own_keep {W W' : World} {base : Nat} {v : Value} {n : Nat} {xs : List Value} (h : W.ownsRow base 29 3 v n xs) (hb : Below W.heap.size W W') : W'.ownsRow base 29 3 v n xs := by
  have hg : W.grownBy W' none := ⟨hb.os, hb.tape, hb.output, hb.size, fun k hk _ => hb.block k hk⟩
  exact World.ownsRow.kept h hg (by cases hv : v.ownBlock with | none => exact Or.inl rfl | some k => exact Or.inr (by simp))
theorem fit_snoc {V : List AVal} (h : ∀ v ∈ V, v.fit) : ∀ v ∈ V ++ [⟨0, 0, ⟨#[]⟩⟩], v.fit := fun v hv => by
  rcases List.mem_append.1 hv with h' | h'
  · exact h v h'
  · rw [List.mem_singleton] at h'; subst h'; exact none_fit _ _
theorem more_made {w W w1 : World} {V : List AVal} {z : AVal} {v0 v' : Value} (hb : Below w.heap.size w W) (hown0 : W.ownsRow w.heap.size 29 3 v0 V.length (V.flatMap AVal.cells))
    (hown1 : w1.ownsRow w.heap.size 29 3 v' (V.length + 1) (V.flatMap AVal.cells ++ z.cells)) (hgrow : W.grownBy w1 v0.ownBlock) (hne1 : v' ≠ .slice none 0 0) :
    ∃ b1 cap1, v' = .slice (some ⟨b1, 0, none⟩) (V.length + 1) cap1 ∧ Hid (ValsAt w1 (some ⟨b1, 0, none⟩) (V ++ [z]) ∧ Below w.heap.size w w1) := by
  have hO1 := ownv_snoc hown1 hne1
  have hb1 := hb.grown hgrow hb.size (fun k hk => (World.ownsRow.lt hown0 k hk).1)
  obtain ⟨b1, cap1, e, _, hv⟩ := hO1.cols
  exact ⟨b1, cap1, by rw [e, List.length_append]; rfl, hv, hb1⟩
theorem more_len {V : List AVal} (h : V.length ≤ 11) : (V ++ [(⟨0, 0, ⟨#[]⟩⟩ : AVal)]).length ≤ maxLen := by
  rw [List.length_append]
  unfold maxLen
  simp only [List.length_singleton]
  omega
theorem more_row {W : World} {bs cs b1 cap1 : Nat} {L : List ACol} {V : List AVal} {z : AVal} {r : Bool} {W4 : World} (hL : ColsAt W4 (some ⟨bs, 0, none⟩) L) (hC : ValsAt W (some ⟨b1, 0, none⟩) (V ++ [z]) ∧ Below W4.heap.size W4 W) (hr : rowOk L (V ++ [z]) = r) (hf : ∀ c ∈ L, c.fit) (hg : ∀ v ∈ V ++ [z], v.fit) (hm : L.length ≤ maxLen) (hm2 : (V ++ [z]).length ≤ maxLen) :
    Calls Try.prog 5 #[.slice (some ⟨bs, 0, none⟩) L.length cs, .slice (some ⟨b1, 0, none⟩) (V.length + 1) cap1] W fun e w' => e = .returned (.bool r) ∧ Below W.heap.size W w' := by
  have := impl_row (some ⟨bs, 0, none⟩) (some ⟨b1, 0, none⟩) cs cap1 L (V ++ [z]) W (hL.keep hC.2) hC.1 hf hg hm hm2
  rw [List.length_append, hr] at this
  exact this

set_option maxRecDepth 100000 in
set_option maxHeartbeats 2000000 in
theorem law_rows (x : Option Addr) (len cap : Nat) (w : World) (hlc : len ≤ cap) (hcap : cap ≤ maxLen) (hc : IsCode w.heap.size x len w) :
    Calls Try.prog 3 #[.slice x len cap] w fun e w' => e = .returned (.bool true) ∧ Below w.heap.size w w' := by
  have hcap' := hcap
  unfold maxLen at hcap'
  by_cases hl : (1048576 : Int) < len
  · go_enter Try.func3, Try.ntmps3
    go_wp2_with fail
    go_ret
    exact ⟨rfl, Below.refl _ _⟩
  · go_enter Try.func3, Try.ntmps3
    go_wp2_with fail
    refine (draw_row x len cap w hlc hcap hc).mono ?_
    rintro e w1 ⟨bs, cs, bv, ov, cv, L, V, rfl, hL, hV, hl6, hv11, hvc, hs, hvs, hb⟩
    have hf := small_fit hs
    have hg := smallv_fit hvs
    have hm : L.length ≤ maxLen := by unfold maxLen; omega
    have hm2 : V.length ≤ maxLen := by unfold maxLen; omega
    have H1 : Hid (RS w (some ⟨bs, 0, none⟩) (some ⟨bv, ov, none⟩) L V w1) := ⟨hL, hV, hb⟩
    clear hL hV hb hc
    go_wp2_with fail
    refine (impl_row _ _ _ _ _ _ _ H1.out.1 H1.out.2.1 hf hg hm hm2).mono ?_
    rintro e w2 ⟨rfl, hb⟩
    have H2 : Hid (RS w (some ⟨bs, 0, none⟩) (some ⟨bv, ov, none⟩) L V w2) := H1.out.next hb
    clear H1 hb
    go_wp2_with fail
    refine (spec_row _ _ _ _ _ _ _ H2.out.1 H2.out.2.1 hf hg hm hm2).mono ?_
    rintro e w3 ⟨rfl, hb⟩
    have H3 : Hid (RS w (some ⟨bs, 0, none⟩) (some ⟨bv, ov, none⟩) L V w3) := H2.out.next hb
    clear H2 hb
    cases hok : rowOk L V
    · go_wp2_with fail
      refine (spec_row _ _ _ _ _ _ _ H3.out.1 H3.out.2.1 hf hg hm hm2).mono ?_
      rintro e w4 ⟨rfl, hb⟩
      rw [hok]
      have H4 : Hid (RS w (some ⟨bs, 0, none⟩) (some ⟨bv, ov, none⟩) L V w4) := H3.out.next hb
      clear hb
      go_wp2_with fail
      go_ret
      exact ⟨rfl, H4.out.2.2⟩
    · have hlen := (row_parts hok).2.1
      have hE : Hid (V.length = L.length) := hlen
      have hsh := (row_parts hok).1
      have hL1 := (shape_firsts L hsh).2.1
      obtain ⟨i0, hi, hz, hsz, hby⟩ := Try.info29
      have hby0 : (0 + V.length) * i0.bytes ≤ 140737488355328 := by
        have : (0 + V.length) * i0.bytes ≤ 11 * 128 := Nat.mul_le_mul (by omega) hby
        omega
      clear hlen
      go_wp2_with fail
      go_loopw [6] (fun i wr => ∃ k : Nat, k ≤ V.length ∧ i = .int .i64 k ∧ Hid (RS w (some ⟨bs, 0, none⟩) (some ⟨bv, ov, none⟩) L V wr)) (fun i _ => V.length - (intOf i).toNat)
      case atStart => exact ⟨0, Nat.zero_le _, rfl, H3⟩
      case round =>
        obtain ⟨k, hk, rfl, hH⟩ := hrel
        clear H3
        by_cases hlt : k < V.length
        · have hlt2 : k < L.length := by have := hE.out; omega
          obtain ⟨bs', os', hab, hbl, hr⟩ := hH.out.1.at hlt2
          cases hab
          have hck := List.getElem?_eq_getElem hlt2
          revert hr hck
          generalize L[k] = c
          intro hr hck
          rw [Nat.zero_add] at hr
          have hkd := kd_of hsh k c hck
          have hRl : Hid (rowOk L (V.set k ⟨0, 0, ⟨#[]⟩⟩) = !c.nd) := (row_set hok k c _ hck).trans (one_none c)
          have hRo : Hid (rowOk L (V.set k ⟨3 - c.kd, 0, ⟨#[]⟩⟩) = false) := (row_set hok k c _ hck).trans (one_other hkd)
          have hld := cells7_of hr
          have hix : ∀ wx, (Instr.indexAt 23 (.slice (some ⟨bs, 0, none⟩) L.length cs) (.int .i64 k)).run Try.prog wx = .ok (.pointer (some ⟨bs, k * 7, none⟩)) wx := fun wx => by
            have := run_ix (P := Try.prog) 23 31 bs 0 L.length cs k wx hlt2 Try.underlying23 (Try.sizeOf31 wx)
            rwa [Nat.zero_add] at this
          have hk1 : 1 ≤ c.kd := by omega
          have hk2 : c.kd ≤ 2 := by omega
          clear hr hck hkd
          have b0 := alloc_below wr (.cells #[] 29)
          have hown0 : (wr.alloc (.cells #[] 29)).ownsRow wr.heap.size 29 3 (.slice (some ⟨wr.heap.size, 0, none⟩) 0 0) 0 [] := World.ownsRow_made wr #[] 0 (Nat.le_refl _) (Nat.zero_le _) rfl
          have hb0 : wr.heap.size ≤ (wr.alloc (.cells #[] 29)).heap.size := by simp
          have hnews : ∀ j u, (V.flatMap AVal.cells)[j]? = some u → (wr.alloc (.cells #[] 29)).cell? ((⟨bv, ov, none⟩ : Addr).add j) = some u := flatv_cells (hH.out.2.1.keep b0)
          go_upto_region 11 with (at_builtin; refine wpList_append_own_at _ rfl _ _ 24 rfl wr.heap.size 29 i0 _ 3 i0.bytes Try.underlying24 hi hz hsz rfl rfl (by decide) _ 0 [] rfl hown0 ⟨bv, ov, none⟩ V.length cv (V.flatMap AVal.cells) rfl (flatv_len V) hnews (flatv_one V) (by unfold maxLen; omega) hby0 hb0 ?_; intro v' w4 hown1 hgrow hnil hloc; obtain ⟨b1x, c1x, rfl, HCx⟩ := copy_made b0 hown0 (by simp) hown1 hgrow hnil; clear hown1 hgrow hnil hloc hown0 hb0 hnews b0)
          obtain ⟨cx, hcx⟩ := HCx.out.cells hlt
          have hfx := HCx.out.soft
          go_upto_region 12 with (fail)
          have HC5 := HCx.out.put hlt 0 0 ⟨#[]⟩
          clear hcx hfx
          generalize (((w4.setCell ⟨b1x, k * 3, none⟩ (.int .i64 0)).setCell ⟨b1x, k * 3 + 1, none⟩ (.int .i64 0)).setCell ⟨b1x, k * 3 + 2, none⟩ (.string ⟨#[]⟩)) = w5 at *
          have hbv : V = [] ∨ bv < wr.heap.size := vals_lt hH.out.2.1
          have H5 : Hid (Copy wr wr.heap.size b1x c1x (V.set k ⟨0, 0, ⟨#[]⟩⟩) w5 ∧ ColsAt w5 (some ⟨bs, 0, none⟩) L ∧ ValsAt w5 (some ⟨bv, ov, none⟩) V ∧ Cells7 w5 bs (k * 7) c) := ⟨HC5, hH.out.1.keepB HC5.2.1 hbl, vals_keep hH.out.2.1 HC5.2.1, cells7_next hld hbl HC5.2.1⟩
          clear HC5 HCx hld
          have b0 := alloc_below w5 (.cells #[] 29)
          have hown0 : (w5.alloc (.cells #[] 29)).ownsRow w5.heap.size 29 3 (.slice (some ⟨w5.heap.size, 0, none⟩) 0 0) 0 [] := World.ownsRow_made w5 #[] 0 (Nat.le_refl _) (Nat.zero_le _) rfl
          have hb0 : w5.heap.size ≤ (w5.alloc (.cells #[] 29)).heap.size := by simp
          have hnews : ∀ j u, (V.flatMap AVal.cells)[j]? = some u → (w5.alloc (.cells #[] 29)).cell? ((⟨bv, ov, none⟩ : Addr).add j) = some u := flatv_cells (H5.out.2.2.1.keep b0)
          go_upto_region 13 with (at_builtin; refine wpList_append_own_at _ rfl _ _ 24 rfl w5.heap.size 29 i0 _ 3 i0.bytes Try.underlying24 hi hz hsz rfl rfl (by decide) _ 0 [] rfl hown0 ⟨bv, ov, none⟩ V.length cv (V.flatMap AVal.cells) rfl (flatv_len V) hnews (flatv_one V) (by unfold maxLen; omega) hby0 hb0 ?_; intro v' w6 hown1 hgrow hnil hloc; obtain ⟨b1y, c1y, rfl, HCy⟩ := copy_made b0 hown0 (by simp) hown1 hgrow hnil; clear hown1 hgrow hnil hloc hown0 hb0 hnews b0)
          obtain ⟨cy, hcy⟩ := HCy.out.cells hlt
          have hfy := HCy.out.soft
          have hld6 : Cells7 w6 bs (k * 7) c := cells7_next H5.out.2.2.2 (by have := H5.out.1.2.1.size; omega) HCy.out.2.1
          go_upto_region 14 with (fail)
          have HC7 := HCy.out.put hlt (3 - c.kd) 0 ⟨#[]⟩
          clear hcy hfy hld6
          generalize (((w6.setCell ⟨b1y, k * 3, none⟩ (.int .i64 (3 - c.kd))).setCell ⟨b1y, k * 3 + 1, none⟩ (.int .i64 0)).setCell ⟨b1y, k * 3 + 2, none⟩ (.string ⟨#[]⟩)) = w7 at *
          have hzw : wr.heap.size ≤ w5.heap.size := H5.out.1.2.1.size
          have hS : RC w bs bv ov b1x b1y k L V (V.set k ⟨0, 0, ⟨#[]⟩⟩) (V.set k ⟨3 - c.kd, 0, ⟨#[]⟩⟩) c w7 :=
            ⟨H5.out.2.1.keepB HC7.2.1 (by omega), vals_keep H5.out.2.2.1 HC7.2.1, by have := H5.out.1.1.at; exact this.keepB HC7.2.1 H5.out.1.2.2.2, HC7.1.at, cells7_next H5.out.2.2.2 (by omega) HC7.2.1, by have := HC7.2.1.size; omega, (hH.out.2.2.trans (H5.out.1.2.1.mono hH.out.2.2.size)).trans (HC7.2.1.mono (by have := hH.out.2.2.size; omega))⟩
          have inh : Nonempty (Over (RC w bs bv ov b1x b1y k L V (V.set k ⟨0, 0, ⟨#[]⟩⟩) (V.set k ⟨3 - c.kd, 0, ⟨#[]⟩⟩) c)) := ⟨⟨_, hS⟩⟩
          have f0 : ∀ p : Over (RC w bs bv ov b1x b1y k L V (V.set k ⟨0, 0, ⟨#[]⟩⟩) (V.set k ⟨3 - c.kd, 0, ⟨#[]⟩⟩) c), Cells7 p.W bs (k * 7) c := fun p => p.ok.2.2.2.2.1
          have hcony : ∀ p : Over (RC w bs bv ov b1x b1y k L V (V.set k ⟨0, 0, ⟨#[]⟩⟩) (V.set k ⟨3 - c.kd, 0, ⟨#[]⟩⟩) c), Calls Try.prog 5 #[.slice (some ⟨bs, 0, none⟩) L.length cs, .slice (some ⟨b1y, 0, none⟩) V.length c1y] p.W fun e w' => e = .returned (.bool false) ∧ Below p.W.heap.size p.W w' := fun p => by
            have := impl_row (some ⟨bs, 0, none⟩) (some ⟨b1y, 0, none⟩) cs c1y L (V.set k ⟨3 - c.kd, 0, ⟨#[]⟩⟩) p.W p.ok.1 p.ok.2.2.2.1 hf (fit_set hg k (none_fit _ _)) hm (by rw [List.length_set]; exact hm2)
            rw [List.length_set, hRo.out] at this
            exact this
          refine wp_region_over (S := RC w bs bv ov b1x b1y k L V (V.set k ⟨0, 0, ⟨#[]⟩⟩) (V.set k ⟨3 - c.kd, 0, ⟨#[]⟩⟩) c) (by kernel_rfl) (by kernel_rfl) (hS.next (Below.refl _ _).drew) ?_
          clear HC7 H5 HCy hH hS
          cases hnd : c.nd
          · have hconx : ∀ p : Over (RC w bs bv ov b1x b1y k L V (V.set k ⟨0, 0, ⟨#[]⟩⟩) (V.set k ⟨3 - c.kd, 0, ⟨#[]⟩⟩) c), Calls Try.prog 5 #[.slice (some ⟨bs, 0, none⟩) L.length cs, .slice (some ⟨b1x, 0, none⟩) V.length c1x] p.W fun e w' => e = .returned (.bool true) ∧ Below p.W.heap.size p.W w' := fun p => by
              have := impl_row (some ⟨bs, 0, none⟩) (some ⟨b1x, 0, none⟩) cs c1x L (V.set k ⟨0, 0, ⟨#[]⟩⟩) p.W p.ok.1 p.ok.2.2.1 hf (fit_set hg k (none_fit _ _)) hm (by rw [List.length_set]; exact hm2)
              rw [List.length_set, hRl.out, hnd] at this
              exact this
            repeat (go_big_quiet_step (first | (go_at_call_of 5 b1x; exact over_call (hconx _) (fun _ h => RC.next (Over.ok _) h)) | (go_at_call_of 5 b1y; exact over_call (hcony _) (fun _ h => RC.next (Over.ok _) h))))
            refine wpQuiet_nil ?_
            rintro wq ⟨p, hp⟩
            have hq := p.ok
            rw [← hp] at hq
            have HQ : Hid (RC w bs bv ov b1x b1y k L V (V.set k ⟨0, 0, ⟨#[]⟩⟩) (V.set k ⟨3 - c.kd, 0, ⟨#[]⟩⟩) c wq) := hq
            clear hp p f0 inh hq hconx hcony
            go_wp2_with fail
            go_roundw
            case rel => exact ⟨k + 1, by omega, by go_num, ⟨HQ.out.1, HQ.out.2.1, HQ.out.2.2.2.2.2.2⟩⟩
            case measure => simp [intOf]; omega
          · have hconx : ∀ p : Over (RC w bs bv ov b1x b1y k L V (V.set k ⟨0, 0, ⟨#[]⟩⟩) (V.set k ⟨3 - c.kd, 0, ⟨#[]⟩⟩) c), Calls Try.prog 5 #[.slice (some ⟨bs, 0, none⟩) L.length cs, .slice (some ⟨b1x, 0, none⟩) V.length c1x] p.W fun e w' => e = .returned (.bool false) ∧ Below p.W.heap.size p.W w' := fun p => by
              have := impl_row (some ⟨bs, 0, none⟩) (some ⟨b1x, 0, none⟩) cs c1x L (V.set k ⟨0, 0, ⟨#[]⟩⟩) p.W p.ok.1 p.ok.2.2.1 hf (fit_set hg k (none_fit _ _)) hm (by rw [List.length_set]; exact hm2)
              rw [List.length_set, hRl.out, hnd] at this
              exact this
            repeat (go_big_quiet_step (first | (go_at_call_of 5 b1x; exact over_call (hconx _) (fun _ h => RC.next (Over.ok _) h)) | (go_at_call_of 5 b1y; exact over_call (hcony _) (fun _ h => RC.next (Over.ok _) h))))
            refine wpQuiet_nil ?_
            rintro wq ⟨p, hp⟩
            have hq := p.ok
            rw [← hp] at hq
            have HQ : Hid (RC w bs bv ov b1x b1y k L V (V.set k ⟨0, 0, ⟨#[]⟩⟩) (V.set k ⟨3 - c.kd, 0, ⟨#[]⟩⟩) c wq) := hq
            clear hp p f0 inh hq hconx hcony
            go_wp2_with fail
            go_roundw
            case rel => exact ⟨k + 1, by omega, by go_num, ⟨HQ.out.1, HQ.out.2.1, HQ.out.2.2.2.2.2.2⟩⟩
            case measure => simp [intOf]; omega
        · have hkl : k = V.length := by omega
          subst hkl
          have hcons : ∃ v0 V', V = v0 :: V' := by
            cases V with
            | nil => have := hE.out; simp at this; omega
            | cons v0 V' => exact ⟨v0, V', rfl⟩
          obtain ⟨v0, V', rfl⟩ := hcons
          have hT : Hid (rowOk L V' = false) := row_len hok (by simp)
          have hA : Hid (rowOk L ((v0 :: V') ++ [⟨0, 0, ⟨#[]⟩⟩]) = false) := row_len hok (by simp)
          have hg' : ∀ v ∈ V', v.fit := fun v hv => hg v (List.mem_cons_of_mem _ hv)
          have hm3 : V'.length ≤ maxLen := by unfold maxLen; simp at hv11; omega
          have htl := hH.out.2.1.tail
          have hvc' : V'.length + 1 ≤ cv := hvc
          by_cases hcv : cv = 1
          · subst hcv
            have hV0 : V' = [] := List.length_eq_zero_iff.1 (by omega)
            subst hV0
            go_wp2_with fail
            refine (impl_row (some ⟨bs, 0, none⟩) (some ⟨bv, ov, none⟩) cs 0 L [] wr hH.out.1 (Or.inl rfl) hf hg' hm hm3).mono ?_
            rintro e w4 ⟨rfl, hb⟩
            rw [hT.out]
            have H4 : Hid (RS w (some ⟨bs, 0, none⟩) (some ⟨bv, ov, none⟩) L [v0] w4) := hH.out.next hb
            clear hb hH
            have b0 := alloc_below w4 (.cells #[] 29)
            have hown0 : (w4.alloc (.cells #[] 29)).ownsRow w4.heap.size 29 3 (.slice (some ⟨w4.heap.size, 0, none⟩) 0 0) 0 [] := World.ownsRow_made w4 #[] 0 (Nat.le_refl _) (Nat.zero_le _) rfl
            have hb0 : w4.heap.size ≤ (w4.alloc (.cells #[] 29)).heap.size := by simp
            have hnews : ∀ j u, ([v0].flatMap AVal.cells)[j]? = some u → (w4.alloc (.cells #[] 29)).cell? ((⟨bv, ov, none⟩ : Addr).add j) = some u := flatv_cells (H4.out.2.1.keep b0)
            have hbyB : ([v0].length + 1) * i0.bytes ≤ 140737488355328 := by
              have : ([v0].length + 1) * i0.bytes ≤ 12 * 128 := Nat.mul_le_mul (by omega) hby
              omega
            go_wp2_with (first
              | (at_builtin; refine wpList_append_want _ rfl _ _ 24 rfl w4.heap.size 29 i0 _ 3 i0.bytes Try.underlying24 hi hz hsz rfl rfl (by decide) _ 0 [] rfl hown0 ⟨bv, ov, none⟩ [v0].length 1 ([v0].flatMap AVal.cells) rfl (flatv_len [v0]) hnews (flatv_one [v0]) (by unfold maxLen; omega) hby0 hb0 ?_; intro v' w5 hown1 hgrow hnil; obtain ⟨b1x, c1x, rfl, HCx⟩ := copy_made b0 hown0 (by simp) hown1 hgrow hnil; have bB := alloc_below w5 (.cells #[.int .i64 0, .int .i64 0, .string ⟨#[]⟩] 29); have hownB : (w5.alloc (.cells #[.int .i64 0, .int .i64 0, .string ⟨#[]⟩] 29)).ownsRow w4.heap.size 29 3 (.slice (some ⟨b1x, 0, none⟩) [v0].length c1x) [v0].length ([v0].flatMap AVal.cells) := own_keep HCx.out.1.1 bB; have hbB : w4.heap.size ≤ (w5.alloc (.cells #[.int .i64 0, .int .i64 0, .string ⟨#[]⟩] 29)).heap.size := (by have := HCx.out.2.1.size; simp; omega); have hnewsB := newv_cells w5 ⟨0, 0, ⟨#[]⟩⟩ 29; clear hown1 hgrow hnil hown0 hb0 hnews b0)
              | (at_builtin; refine wpList_append_want _ rfl _ _ 24 rfl w4.heap.size 29 i0 _ 3 i0.bytes Try.underlying24 hi hz hsz rfl rfl (by decide) _ [v0].length ([v0].flatMap AVal.cells) rfl hownB ⟨w5.heap.size, 0, none⟩ 1 1 (AVal.cells ⟨0, 0, ⟨#[]⟩⟩) rfl rfl hnewsB (cellsv_one _) (by unfold maxLen; omega) hbyB hbB ?_; intro v' w6 hown6 hgrow6 hnil6; obtain ⟨b2, c2, rfl, HC2⟩ := more_made (HCx.out.2.1.trans (bB.mono HCx.out.2.1.size)) hownB hown6 hgrow6 (fun e => by have := (hnil6.1 e).2; omega); clear hown6 hgrow6 hnil6 hownB hbB hnewsB bB))
            refine (more_row H4.out.1 HC2.out hA.out hf (fit_snoc hg) hm (more_len hv11)).mono ?_
            rintro e w7 ⟨rfl, hb⟩
            have H7 : Hid (Below w.heap.size w w7) := (H4.out.2.2.trans (HC2.out.2.mono H4.out.2.2.size)).trans (hb.mono (by have := H4.out.2.2.size; have := HC2.out.2.size; omega))
            clear hb
            go_wp2_with fail
            go_ret
            exact ⟨rfl, H7.out⟩
          · have hcv' : ¬ cv = 1 := hcv
            go_wp2_with fail
            refine (impl_row (some ⟨bs, 0, none⟩) (some ⟨bv, ov + 3, none⟩) cs (cv - 1) L V' wr hH.out.1 htl hf hg' hm hm3).mono ?_
            rintro e w4 ⟨rfl, hb⟩
            rw [hT.out]
            have H4 : Hid (RS w (some ⟨bs, 0, none⟩) (some ⟨bv, ov, none⟩) L (v0 :: V') w4) := hH.out.next hb
            clear hb hH
            have b0 := alloc_below w4 (.cells #[] 29)
            have hown0 : (w4.alloc (.cells #[] 29)).ownsRow w4.heap.size 29 3 (.slice (some ⟨w4.heap.size, 0, none⟩) 0 0) 0 [] := World.ownsRow_made w4 #[] 0 (Nat.le_refl _) (Nat.zero_le _) rfl
            have hb0 : w4.heap.size ≤ (w4.alloc (.cells #[] 29)).heap.size := by simp
            have hnews : ∀ j u, ((v0 :: V').flatMap AVal.cells)[j]? = some u → (w4.alloc (.cells #[] 29)).cell? ((⟨bv, ov, none⟩ : Addr).add j) = some u := flatv_cells (H4.out.2.1.keep b0)
            have hbyB : ((v0 :: V').length + 1) * i0.bytes ≤ 140737488355328 := by
              have : ((v0 :: V').length + 1) * i0.bytes ≤ 12 * 128 := Nat.mul_le_mul (by omega) hby
              omega
            go_wp2_with (first
              | (at_builtin; refine wpList_append_want _ rfl _ _ 24 rfl w4.heap.size 29 i0 _ 3 i0.bytes Try.underlying24 hi hz hsz rfl rfl (by decide) _ 0 [] rfl hown0 ⟨bv, ov, none⟩ (v0 :: V').length cv ((v0 :: V').flatMap AVal.cells) rfl (flatv_len (v0 :: V')) hnews (flatv_one (v0 :: V')) (by unfold maxLen; omega) hby0 hb0 ?_; intro v' w5 hown1 hgrow hnil; obtain ⟨b1x, c1x, rfl, HCx⟩ := copy_made b0 hown0 (by simp) hown1 hgrow hnil; have bB := alloc_below w5 (.cells #[.int .i64 0, .int .i64 0, .string ⟨#[]⟩] 29); have hownB : (w5.alloc (.cells #[.int .i64 0, .int .i64 0, .string ⟨#[]⟩] 29)).ownsRow w4.heap.size 29 3 (.slice (some ⟨b1x, 0, none⟩) (v0 :: V').length c1x) (v0 :: V').length ((v0 :: V').flatMap AVal.cells) := own_keep HCx.out.1.1 bB; have hbB : w4.heap.size ≤ (w5.alloc (.cells #[.int .i64 0, .int .i64 0, .string ⟨#[]⟩] 29)).heap.size := (by have := HCx.out.2.1.size; simp; omega); have hnewsB := newv_cells w5 ⟨0, 0, ⟨#[]⟩⟩ 29; clear hown1 hgrow hnil hown0 hb0 hnews b0)
              | (at_builtin; refine wpList_append_want _ rfl _ _ 24 rfl w4.heap.size 29 i0 _ 3 i0.bytes Try.underlying24 hi hz hsz rfl rfl (by decide) _ (v0 :: V').length ((v0 :: V').flatMap AVal.cells) rfl hownB ⟨w5.heap.size, 0, none⟩ 1 1 (AVal.cells ⟨0, 0, ⟨#[]⟩⟩) rfl rfl hnewsB (cellsv_one _) (by unfold maxLen; omega) hbyB hbB ?_; intro v' w6 hown6 hgrow6 hnil6; obtain ⟨b2, c2, rfl, HC2⟩ := more_made (HCx.out.2.1.trans (bB.mono HCx.out.2.1.size)) hownB hown6 hgrow6 (fun e => by have := (hnil6.1 e).2; omega); clear hown6 hgrow6 hnil6 hownB hbB hnewsB bB))
            refine (more_row H4.out.1 HC2.out hA.out hf (fit_snoc hg) hm (more_len hv11)).mono ?_
            rintro e w7 ⟨rfl, hb⟩
            have H7 : Hid (Below w.heap.size w w7) := (H4.out.2.2.trans (HC2.out.2.mono H4.out.2.2.size)).trans (hb.mono (by have := H4.out.2.2.size; have := HC2.out.2.size; omega))
            clear hb
            go_wp2_with fail
            go_ret
            exact ⟨rfl, H7.out⟩

end Go.Proofs.Ytggcmiapliphgaa
