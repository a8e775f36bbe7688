/- The contracts of impl.without and of (*impl.sorted).off at entries, over the seat's translation. -/
import Derived.Test.YtgjhmpgofmmniaaG06
import Derived.Test.YtgjhmpgofmmniaaG05
import Derived.Test.YtgjhmpgofmmniaaG07
import Derived.Deep.RegionWith
namespace Go.Proofs.Ytgjhmpgofmmniaa
open Go.RowKit

set_option maxRecDepth 100000 in
set_option maxHeartbeats 2000000 in
theorem without_entries (b o cap i r : Nat) (M : List AEnt) (hM : M.length = r + 1) (w : World) (hE : EntsAt w (some ⟨b, o, none⟩) M) (hi : i ≤ r) (hl : M.length ≤ 1048576) :
    Calls Try.prog 59 #[.slice (some ⟨b, o, none⟩) (r + 1) cap, .int .i64 i] w
      fun e w' => ∃ v, e = .returned v ∧ RowE w.heap.size v (M.take i ++ M.drop (i + 1)) w' ∧ Below w.heap.size w w' := by
  have hwk : IntKind.i64.wrap ((i : Int) + 1) = (i : Int) + 1 := by
    simp [IntKind.wrap, IntKind.bits, IntKind.signed]
    omega
  have hcl := clone_entries b o cap M w hE hl (by omega)
  rw [hM] at hcl
  have hHM : Hid (M.length = r + 1) := hM
  clear hE hM
  go_enter Try.func59, Try.ntmps59
  go_wp2_with fail
  refine hcl.mono ?_
  rintro e w1 ⟨g, c, rfl, hO, hb⟩
  have hO' : Hid (OwnE w.heap.size (.slice (some ⟨g, 0, none⟩) M.length c) M w1) := by show OwnE _ _ _ _; rw [hHM.out]; exact hO
  have hB : Hid (Below w.heap.size w w1) := hb
  clear hcl hO hb
  go_wp2_with fail
  refine (delete_entries g c i r M hHM.out w1 w.heap.size hO'.out hi hl hB.out.size).mono ?_
  rintro e w2 ⟨v, rfl, hR, hb⟩
  obtain ⟨a2, n2, c2, hv2⟩ : ∃ a2 n2 c2, v = .slice a2 n2 c2 := by obtain ⟨a2, c2, h, -⟩ := hR.slice; exact ⟨_, _, _, h⟩
  subst hv2
  have hF : Hid (RowE w.heap.size (.slice a2 n2 c2) (M.take i ++ M.drop (i + 1)) w2 ∧ Below w.heap.size w w2) := ⟨hR, hB.out.trans hb⟩
  clear hR hb hO' hB
  go_wp2_with fail
  go_ret
  exact ⟨_, rfl, hF.out.1, hF.out.2⟩

theorem sbox_one {B : Nat} {v f v' : Value} {W : World} (h : SBox B v f W) : SBox B v' f (W.setCell ⟨B, 0, none⟩ v') := by
  obtain ⟨h1, h2, h3, h4⟩ := h
  refine ⟨?_, ?_, ?_, ?_⟩
  all_goals go_simp
theorem RowE.set {base B o : Nat} {v u : Value} {L : List AEnt} {W : World} (h : RowE base v L W) (hB : B < base) : RowE base v L (W.setCell ⟨B, o, none⟩ u) := by
  rcases h with h | ⟨b, cap, hv, h1, h2, h3, h4, h5⟩
  · exact Or.inl h
  · have hne : ¬ b = B := by omega
    refine Or.inr ⟨b, cap, hv, h1, by simpa [World.setCell] using h2, h3, ?_, fun j hj => ?_⟩
    · rcases h4 with h | ⟨b', o', e, hlt, hr⟩
      · exact Or.inl h
      · cases e
        exact Or.inr ⟨b, 0, rfl, by simpa [World.setCell] using hlt, fun i c hc j v hv => by rw [cell_set hne]; exact hr i c hc j v hv⟩
    · rw [cell_set hne, frozen_set hne]; exact h5 j hj

set_option maxRecDepth 100000 in
set_option maxHeartbeats 2000000 in
theorem off_entries (B base : Nat) (v : Value) (M : List AEnt) (x : AEnt) (w : World) (hS : SBox B v (.func (.func 47) #[] #[]) w) (hR : RowE base v M w) (hB : B < w.heap.size) (hbB : base ≤ B) (hA : Asc M) (hm : M.length ≤ 1048576) :
    Calls Try.prog 40 #[.pointer (some ⟨B, 0, none⟩), .agg #[.int .i64 x.k, .int .i64 x.n, .string x.s, .int .i64 x.id]] w
      fun e w' => e = .returned (.bool (thereE M x)) ∧ ∃ v', SBox B v' (.func (.func 47) #[] #[]) w' ∧ RowE base v' (offE M x) w' ∧ B < w'.heap.size ∧ Below B w w' := by
  obtain ⟨a, cap, rfl, h0, hc, hE⟩ := hR.slice
  have bA : Below w.heap.size w (w.alloc (.cells #[.int .i64 x.k, .int .i64 x.n, .string x.s, .int .i64 x.id] 29)) := (Below.refl _ _).alloc (Nat.le_refl _) _
  have LA : Hid (Lst B a cap M (w.alloc (.cells #[.int .i64 x.k, .int .i64 x.n, .string x.s, .int .i64 x.id] 29))) := lst_next ⟨hS, hE, hB⟩ bA
  have hX := (Box.start w [.int .i64 x.k, .int .i64 x.n, .string x.s, .int .i64 x.id] 29).four
  have HA : Hid (RowE base (.slice a M.length cap) M (w.alloc (.cells #[.int .i64 x.k, .int .i64 x.n, .string x.s, .int .i64 x.id] 29)) ∧ Below w.heap.size w (w.alloc (.cells #[.int .i64 x.k, .int .i64 x.n, .string x.s, .int .i64 x.id] 29))) := ⟨hR.next bA, bA⟩
  clear bA hS hR hE
  go_enter Try.func40, Try.ntmps40
  go_wp2_with fail
  refine (place_of B a cap M x _ LA.out hA hm).mono ?_
  rintro e w1 ⟨rfl, hb⟩
  have L1 : Hid (Lst B a cap M w1) := lst_next LA.out hb
  have R1 : Hid (RowE base (.slice a M.length cap) M w1 ∧ Below w.heap.size w w1) := ⟨HA.out.1.next hb, HA.out.2.trans (hb.mono (by simp))⟩
  clear hb LA HA hX
  cases hT : thereE M x
  · have hO : Hid (offE M x = M) := by show offE M x = M; rw [offE, hT]; rfl
    go_wp2_with fail
    go_ret
    exact ⟨ret_bool hT.symm, _, L1.out.1, by rw [hO.out]; exact R1.out.1, L1.out.2.2, R1.out.2.mono (Nat.le_of_lt hB)⟩
  · have hp := (thereE_iff x).1 hT
    have hpl := (List.getElem?_eq_some_iff.1 hp).1
    have hO : Hid (offE M x = M.take (posE M x) ++ M.drop (posE M x + 1)) := by show offE M x = _; rw [offE, hT, if_pos rfl]
    obtain ⟨r, hr⟩ : ∃ r, M.length = r + 1 := ⟨M.length - 1, by omega⟩
    have hpr : posE M x ≤ r := by omega
    obtain ⟨b, o, ha, -, -⟩ := L1.out.2.1.at hpl
    subst ha
    have hw := without_entries b o cap (posE M x) r M hr w1 L1.out.2.1 hpr hm
    have s1 := L1.out.1
    have HR : Hid (M.length = r + 1) := hr
    have hw' := hw
    rw [← hr] at hw'
    clear hp hpl hr hw
    go_wp2_with fail
    refine hw'.mono ?_
    rintro e w2 ⟨v2, rfl, hR2, hb⟩
    obtain ⟨a2, n2, c2, hv2⟩ : ∃ a2 n2 c2, v2 = .slice a2 n2 c2 := by obtain ⟨a2, c2, h, -⟩ := hR2.slice; exact ⟨_, _, _, h⟩
    subst hv2
    have hS2 := sbox_next L1.out.1 L1.out.2.2 hb
    have hF : Hid (RowE w1.heap.size (.slice a2 n2 c2) (offE M x) w2 ∧ SBox B (.slice (some ⟨b, o, none⟩) M.length cap) (.func (.func 47) #[] #[]) w2 ∧ Below w.heap.size w w2 ∧ B < w2.heap.size ∧ B < w1.heap.size) :=
      ⟨by rw [hO.out]; exact hR2, hS2, R1.out.2.trans (hb.mono R1.out.2.size), Nat.lt_of_lt_of_le L1.out.2.2 hb.size, L1.out.2.2⟩
    clear hw' hR2 hb L1 R1 s1
    go_wp2_with fail
    go_ret
    exact ⟨ret_bool hT.symm, _, sbox_one hF.out.2.1, (hF.out.1.set hF.out.2.2.2.2).mono (by have := hF.out.2.2.2.2; omega), by simpa [World.setCell] using hF.out.2.2.2.1, (hF.out.2.2.1.mono (Nat.le_of_lt hB)).setCell (Nat.le_refl _) _⟩

end Go.Proofs.Ytgjhmpgofmmniaa

/- The contract of impl.IndexOff, over the seat's translation. -/
namespace Go.Proofs.Ytgjhmpgofmmniaa
open Go.RowKit

theorem asc_of {L : List AEnt} (h : indexOk L = true) : Asc L := by
  simp only [indexOk, Bool.and_eq_true] at h
  exact (ascB_iff L).1 h.2.2
theorem asc_nil : Asc [] := fun i c d hc => by simp at hc
/-- The list that is made: that of the entries, if they are right. -/
def okE (L : List AEnt) : List AEnt := if indexOk L then L else []
theorem okE_asc (L : List AEnt) : Asc (okE L) := by
  unfold okE
  cases h : indexOk L
  · exact asc_nil
  · exact asc_of h
theorem okE_len (L : List AEnt) : (okE L).length ≤ 16 := by
  unfold okE
  cases h : indexOk L
  · exact Nat.zero_le _
  · simp only [indexOk, Bool.and_eq_true, decide_eq_true_eq] at h
    exact h.1
theorem off_nil (x : AEnt) : offE [] x = [] := by unfold offE thereE isThere; simp
theorem there_nil (x : AEnt) : thereE [] x = false := by unfold thereE isThere; simp
theorem off_okE (L : List AEnt) (x : AEnt) : offE (okE L) x = if indexOk L then offE L x else [] := by
  unfold okE
  cases indexOk L
  · exact off_nil x
  · rfl
theorem there_okE (L : List AEnt) (x : AEnt) : thereE (okE L) x = (indexOk L && thereE L x) := by
  unfold okE
  cases indexOk L
  · exact there_nil x
  · rfl

set_option maxRecDepth 100000 in
set_option maxHeartbeats 2000000 in
theorem impl_off (a : Option Addr) (cap : Nat) (L : List AEnt) (x : AEnt) (w : World) (hL : EntsAt w a L) (h0 : a = none → cap = 0) (hf : ∀ c ∈ L, c.fit) (hm : L.length ≤ 1048576) :
    Calls Try.prog 24 #[.slice a L.length cap, .agg #[.int .i64 x.k, .int .i64 x.n, .string x.s, .int .i64 x.id]] w
      fun e w' => ∃ v, e = .returned (.tuple #[v, .bool (indexOk L && thereE L x)]) ∧ RowE w.heap.size v (if indexOk L then offE L x else []) w' ∧ Below w.heap.size w w' := by
  have hm' : L.length ≤ maxLen := by unfold maxLen; omega
  rw [← off_okE, ← there_okE]
  have bA : Below w.heap.size w (w.alloc (.cells #[.int .i64 x.k, .int .i64 x.n, .string x.s, .int .i64 x.id] 29)) := (Below.refl _ _).alloc (Nat.le_refl _) _
  have LA : Hid (EntsAt (w.alloc (.cells #[.int .i64 x.k, .int .i64 x.n, .string x.s, .int .i64 x.id] 29)) a L) := hL.keep bA
  have hX := Box.start w [.int .i64 x.k, .int .i64 x.n, .string x.s, .int .i64 x.id] 29
  have HA : Hid (Box w.heap.size [.int .i64 x.k, .int .i64 x.n, .string x.s, .int .i64 x.id] (w.alloc (.cells #[.int .i64 x.k, .int .i64 x.n, .string x.s, .int .i64 x.id] 29)) ∧ Below w.heap.size w (w.alloc (.cells #[.int .i64 x.k, .int .i64 x.n, .string x.s, .int .i64 x.id] 29))) := ⟨hX, bA⟩
  clear bA hL hX
  go_enter Try.func24, Try.ntmps24
  go_wp2_with fail
  refine (entries_of a cap L _ LA.out h0 hf hm').mono ?_
  rintro e w1 ⟨v, rfl, hv, hb⟩
  have hv' : OwnE w.heap.size v (okE L) w1 := hv.mono (by simp)
  have HX : Hid (Box w.heap.size [.int .i64 x.k, .int .i64 x.n, .string x.s, .int .i64 x.id] w1 ∧ Below w.heap.size w w1) := ⟨HA.out.1.next hb, HA.out.2.trans (hb.mono (by simp))⟩
  obtain ⟨r, hr⟩ : ∃ r, r = indexOk L := ⟨_, rfl⟩
  rw [← hr]
  obtain ⟨a1, n1, c1, hV⟩ : ∃ a1 n1 c1, v = .slice a1 n1 c1 := by obtain ⟨a1, c1, h, -, -⟩ := hv.slice; exact ⟨a1, _, c1, h⟩
  subst hV
  have hR1 : Hid (RowE w.heap.size (.slice a1 n1 c1) (okE L) w1) := hv'.row
  have b1 : Below w1.heap.size w1 (w1.alloc (.cells #[.slice a1 n1 c1, .func (.func 47) #[] #[]] 49)) := (Below.refl _ _).alloc (Nat.le_refl _) _
  have x1 := (HX.out.1.next b1).four
  have hS := sbox_box w1 (.slice a1 n1 c1) (.func (.func 47) #[] #[]) 49
  have H1 : Hid (RowE w.heap.size (.slice a1 n1 c1) (okE L) (w1.alloc (.cells #[.slice a1 n1 c1, .func (.func 47) #[] #[]] 49)) ∧ SBox w1.heap.size (.slice a1 n1 c1) (.func (.func 47) #[] #[]) (w1.alloc (.cells #[.slice a1 n1 c1, .func (.func 47) #[] #[]] 49)) ∧ Below w.heap.size w (w1.alloc (.cells #[.slice a1 n1 c1, .func (.func 47) #[] #[]] 49)) ∧ w.heap.size ≤ w1.heap.size) :=
    ⟨hR1.out.next b1, hS, HX.out.2.trans (b1.mono HX.out.2.size), HX.out.2.size⟩
  clear hr hb hv hv' LA HA b1 hS HX hR1
  go_wp2_with fail
  refine (off_entries w1.heap.size w.heap.size _ (okE L) x _ H1.out.2.1 H1.out.1 (by simp) H1.out.2.2.2 (okE_asc L) (by have := okE_len L; omega)).mono ?_
  rintro e w2 ⟨rfl, v2, hS2, hR2, hz2, hb2⟩
  obtain ⟨a2, n2, c2, hV⟩ : ∃ a2 n2 c2, v2 = .slice a2 n2 c2 := by obtain ⟨a2, c2, h, -⟩ := hR2.slice; exact ⟨a2, _, c2, h⟩
  subst hV
  have HF : Hid (RowE w.heap.size (.slice a2 n2 c2) (offE (okE L) x) w2 ∧ Below w.heap.size w w2) := ⟨hR2, H1.out.2.2.1.trans (hb2.mono H1.out.2.2.2)⟩
  clear hR2 hb2 H1 x1
  go_wp2_with fail
  go_ret2
  exact ⟨_, rfl, HF.out.1, HF.out.2⟩

end Go.Proofs.Ytgjhmpgofmmniaa

/- The contract of slices.Insert of one entry; of (*impl.sorted).put, over the seat's translation. -/
namespace Go.Proofs.Ytgjhmpgofmmniaa
open Go.RowKit

theorem insert_entries (a : Option Addr) (cap vb i : Nat) (M : List AEnt) (x : AEnt) (w : World) (base : Nat) (hO : OwnE base (.slice a M.length cap) M w) (hi : i ≤ M.length) (hl : M.length ≤ 1048576) (hbs : base ≤ w.heap.size) (hx : OneE vb x w) (hgv : ∀ g, a = some ⟨g, 0, none⟩ → g < vb) :
    Calls Try.prog 58 #[.slice a M.length cap, .int .i64 i, .slice (some ⟨vb, 0, none⟩) 1 1] w
      fun e w' => ∃ v, e = .returned v ∧ RowE base v (M.take i ++ x :: M.drop i) w' ∧ OnlyE a w w' := by
  by_cases he : i = M.length
  · subst he
    exact insert_end a cap vb M x w base hO hl hbs hx
  · have hlt : i < M.length := by omega
    rcases hO.form with ⟨h, hM⟩ | ⟨g, c, h, -⟩
    · subst hM; simp at hlt
    · cases h
      by_cases hr : M.length + 1 ≤ cap
      · exact insert_room g cap vb i M x w base hO hlt hr hl hbs hx (hgv g rfl)
      · exact insert_grow g cap vb i M x w base hO hlt (by omega) hl hbs hx

/-- x put in. -/
def insE (M : List AEnt) (x : AEnt) : List AEnt := M.take (posE M x) ++ x :: M.drop (posE M x)
def putE (M : List AEnt) (x : AEnt) : List AEnt := if thereE M x then M else insE M x

theorem OneE.new (W : World) (x : AEnt) : OneE W.heap.size x (W.alloc (.cells #[.int .i64 x.k, .int .i64 x.n, .string x.s, .int .i64 x.id] 29)) := by
  show (W.heap.push _)[W.heap.size]? = _
  simp

theorem RowE.put {base B : Nat} {v f u : Value} {a : Option Addr} {n c : Nat} {L : List AEnt} {W : World} (h : RowE base v L W) (hS : SBox B (.slice a n c) f W) (hL : L ≠ []) : RowE base v L (W.setCell ⟨B, 0, none⟩ u) := by
  rcases h with ⟨_, h⟩ | ⟨b, cap, hv, h1, h2, h3, h4, h5⟩
  · exact absurd h hL
  · have hne : ¬ b = B := fun e => by
      subst e
      rcases h4 with h | ⟨b', o', e, _, hr⟩
      · exact hL h
      · cases e
        cases L with
        | nil => exact hL rfl
        | cons d L =>
          have := hr 0 d rfl 0 _ rfl
          have h6 := hS.1
          rw [show (0 + 0 * 4 + 0 : Nat) = 0 from rfl, h6] at this
          cases this
    refine Or.inr ⟨b, cap, hv, h1, by simpa [World.setCell] using h2, h3, ?_, fun j hj => ?_⟩
    · rcases h4 with h | ⟨b', o', e, hlt, hr⟩
      · exact Or.inl h
      · cases e
        exact Or.inr ⟨b, 0, rfl, by simpa [World.setCell] using hlt, fun i c hc j v hv => by rw [cell_set hne]; exact hr i c hc j v hv⟩
    · rw [cell_set hne, frozen_set hne]; exact h5 j hj

theorem sbox_turn {B G : Nat} {v f : Value} {W W' : World} (h : SBox B v f W) (ht : Turn G W W') (hB : B < W.heap.size) (hne : B ≠ G) : SBox B v f W' := by
  have hc := fun o => ht.cell hB hne o
  have hf := fun o => ht.frozen hB hne o
  unfold SBox
  simp only [hc, hf]
  exact h

set_option maxRecDepth 100000 in
set_option maxHeartbeats 2000000 in
theorem put_entries (B base : Nat) (v : Value) (M : List AEnt) (x : AEnt) (w : World) (hS : SBox B v (.func (.func 47) #[] #[]) w) (hR : OwnE base v M w) (hB : B < w.heap.size) (hbB : base ≤ B) (hgB : ∀ a n c g, v = .slice a n c → a = some ⟨g, 0, none⟩ → g < B) (hA : Asc M) (hm : M.length ≤ 1000000) :
    Calls Try.prog 38 #[.pointer (some ⟨B, 0, none⟩), .agg #[.int .i64 x.k, .int .i64 x.n, .string x.s, .int .i64 x.id]] w
      fun e w' => e = .returned (.bool (!(thereE M x))) ∧ ∃ v', SBox B v' (.func (.func 47) #[] #[]) w' ∧ RowE base v' (putE M x) w' ∧ B < w'.heap.size ∧ Below base w w' := by
  obtain ⟨a, cap, hv, h0, hE⟩ := hR.slice
  subst hv
  have bA : Below w.heap.size w (w.alloc (.cells #[.int .i64 x.k, .int .i64 x.n, .string x.s, .int .i64 x.id] 29)) := (Below.refl _ _).alloc (Nat.le_refl _) _
  have LA : Hid (Lst B a cap M (w.alloc (.cells #[.int .i64 x.k, .int .i64 x.n, .string x.s, .int .i64 x.id] 29))) := lst_next ⟨hS, hE, hB⟩ bA
  have hX := Box.start w [.int .i64 x.k, .int .i64 x.n, .string x.s, .int .i64 x.id] 29
  have HA : Hid (OwnE base (.slice a M.length cap) M (w.alloc (.cells #[.int .i64 x.k, .int .i64 x.n, .string x.s, .int .i64 x.id] 29)) ∧ Below w.heap.size w (w.alloc (.cells #[.int .i64 x.k, .int .i64 x.n, .string x.s, .int .i64 x.id] 29)) ∧ Box w.heap.size [.int .i64 x.k, .int .i64 x.n, .string x.s, .int .i64 x.id] (w.alloc (.cells #[.int .i64 x.k, .int .i64 x.n, .string x.s, .int .i64 x.id] 29))) := ⟨hR.next bA, bA, hX⟩
  have x0 := hX.four
  clear bA hS hR hE hX
  go_enter Try.func38, Try.ntmps38
  go_wp2_with fail
  refine (place_of B a cap M x _ LA.out hA (by omega)).mono ?_
  rintro e w1 ⟨rfl, hb⟩
  have L1 : Hid (Lst B a cap M w1) := lst_next LA.out hb
  have R1 : Hid (OwnE base (.slice a M.length cap) M w1 ∧ Below w.heap.size w w1 ∧ Box w.heap.size [.int .i64 x.k, .int .i64 x.n, .string x.s, .int .i64 x.id] w1) := ⟨HA.out.1.next hb, HA.out.2.1.trans (hb.mono (by simp)), HA.out.2.2.next hb⟩
  clear hb LA HA x0
  cases hT : thereE M x
  rotate_left
  · have hO : Hid (putE M x = M) := by show putE M x = M; rw [putE, hT]; rfl
    go_wp2_with fail
    go_ret
    exact ⟨ret_bool (by rw [hT]; rfl), _, L1.out.1, by rw [hO.out]; exact R1.out.1.row, L1.out.2.2, R1.out.2.1.mono (by omega)⟩
  · have hO : Hid (putE M x = M.take (posE M x) ++ x :: M.drop (posE M x)) := by show putE M x = _; rw [putE, hT]; rfl
    have hpl : posE M x ≤ M.length := (isAt_pos hA x).1
    have s1 := L1.out.1
    have x1 := R1.out.2.2.four
    have b1 : Below w1.heap.size w1 (w1.drew.alloc (.cells #[.int .i64 x.k, .int .i64 x.n, .string x.s, .int .i64 x.id] 29)) := ((Below.refl _ _).drew).alloc (Nat.le_refl _) _
    have s2 := sbox_next L1.out.1 L1.out.2.2 b1
    have s3 : SBox B (.slice a M.length cap) (.func (.func 47) #[] #[]) (w1.alloc (.cells #[.int .i64 x.k, .int .i64 x.n, .string x.s, .int .i64 x.id] 29)) := s2
    go_wp2_with fail
    obtain ⟨G, hG, hGB, hbG⟩ : ∃ G, (∀ g, a = some ⟨g, 0, none⟩ → g = G) ∧ B ≠ G ∧ base ≤ G := by
      rcases R1.out.1.form with ⟨h, _⟩ | ⟨g, c, h, h1, _⟩
      · have ha := (Value.slice.inj h).1
        exact ⟨w.heap.size, (fun g h => by rw [ha] at h; cases h), by omega, by omega⟩
      · have ha := (Value.slice.inj h).1
        have := hgB _ _ _ g rfl ha
        exact ⟨g, (fun g' h => by rw [ha] at h; cases h; rfl), by omega, h1⟩
    have hgv : ∀ g, a = some ⟨g, 0, none⟩ → g < w1.heap.size := fun g h => by
      have := hgB _ _ _ g rfl h
      have := L1.out.2.2
      omega
    have hO2 : Hid (OwnE base (.slice a M.length cap) M (w1.alloc (.cells #[.int .i64 x.k, .int .i64 x.n, .string x.s, .int .i64 x.id] 29)).drew) := R1.out.1.next (((Below.refl _ _).alloc (Nat.le_refl _) _).drew)
    have hbs : base ≤ (w1.alloc (.cells #[.int .i64 x.k, .int .i64 x.n, .string x.s, .int .i64 x.id] 29)).drew.heap.size := by
      have := L1.out.2.2
      show base ≤ (w1.alloc _).heap.size
      rw [size_alloc]; omega
    have hSd : Hid (SBox B (.slice a M.length cap) (.func (.func 47) #[] #[]) (w1.alloc (.cells #[.int .i64 x.k, .int .i64 x.n, .string x.s, .int .i64 x.id] 29)).drew ∧ B < (w1.alloc (.cells #[.int .i64 x.k, .int .i64 x.n, .string x.s, .int .i64 x.id] 29)).drew.heap.size) := ⟨s2, by
      have := L1.out.2.2
      show B < (w1.alloc _).heap.size
      rw [size_alloc]; omega⟩
    first
      | (go_region_with (go_at_call 58; refine (insert_entries a cap w1.heap.size (posE M x) M x _ base hO2.out hpl (by omega) hbs (OneE.new w1 x) hgv).mono ?_; rintro e wI ⟨vI, rfl, hRI, hTI⟩; obtain ⟨aI, nI, cI, hvI⟩ : ∃ aI nI cI, vI = .slice aI nI cI := (by obtain ⟨a, c, h, -⟩ := hRI.slice; exact ⟨a, _, c, h⟩); subst hvI; have hTI' := hTI G hG; have sI := sbox_turn hSd.out.1 hTI' hSd.out.2 hGB; clear hTI))
      | fail
    all_goals
      have HF : Hid (SBox B (.slice aI nI cI) (.func (.func 47) #[] #[]) (wI.setCell ⟨B, 0, none⟩ (.slice aI nI cI)) ∧ RowE base (.slice aI nI cI) (putE M x) (wI.setCell ⟨B, 0, none⟩ (.slice aI nI cI)) ∧ B < (wI.setCell ⟨B, 0, none⟩ (.slice aI nI cI)).heap.size ∧ Below base w (wI.setCell ⟨B, 0, none⟩ (.slice aI nI cI))) := by
        refine ⟨sbox_one sI, by rw [hO.out]; exact hRI.put sI (by simp), ?_, Below.setCell ?_ hbB _⟩
        · have := Nat.lt_of_lt_of_le hSd.out.2 hTI'.size
          simpa [World.setCell] using this
        · exact (R1.out.2.1.mono (by omega : base ≤ w.heap.size)).trans (((Below.refl base w1).alloc (by have := L1.out.2.2; omega) _).drew.trans (hTI'.below hbG hbs))
      clear hRI hTI' sI s1 s2 s3 hSd hO2
      go_wp2_with fail
      go_ret
      exact ⟨ret_bool (by rw [hT]; rfl), _, HF.out⟩

end Go.Proofs.Ytgjhmpgofmmniaa

/- An entry put in: when it is right. -/
namespace Go.Proofs.Ytgjhmpgofmmniaa
open Go.RowKit

theorem ins_get (M : List AEnt) (x : AEnt) (j : Nat) (hp : posE M x ≤ M.length) : (insE M x)[j]? = if j < posE M x then M[j]? else if j = posE M x then some x else M[j - 1]? := by
  unfold insE
  have hl : (M.take (posE M x)).length = posE M x := by rw [List.length_take, Nat.min_eq_left hp]
  by_cases h1 : j < posE M x
  · rw [if_pos h1, List.getElem?_append_left (by omega), List.getElem?_take, if_pos h1]
  · rw [if_neg h1, List.getElem?_append_right (by omega), hl]
    by_cases h2 : j = posE M x
    · rw [if_pos h2, h2, Nat.sub_self]; rfl
    · rw [if_neg h2, show j - posE M x = (j - posE M x - 1) + 1 by omega, List.getElem?_cons_succ, List.getElem?_drop]
      congr 1
      omega

theorem ins_asc {M : List AEnt} (hA : Asc M) (x : AEnt) : ascB (insE M x) = !(thereE M x) := by
  obtain ⟨hp, hlo, hhi⟩ := isAt_pos hA x
  cases hT : thereE M x
  · refine (ascB_iff _).2 fun i c d hc hd => ?_
    rw [ins_get M x _ hp] at hc hd
    by_cases h1 : i + 1 < posE M x
    · rw [if_pos (by omega)] at hc
      rw [if_pos h1] at hd
      exact hA i c d hc hd
    · rw [if_neg h1] at hd
      by_cases h2 : i + 1 = posE M x
      · rw [if_pos (by omega)] at hc
        rw [if_pos h2] at hd
        cases hd
        exact hlo i c (by omega) hc
      · rw [if_neg h2] at hd
        rw [if_neg (by omega)] at hc
        by_cases h3 : i = posE M x
        · rw [if_pos h3] at hc
          cases hc
          rw [show i + 1 - 1 = posE M x by omega] at hd
          cases hl : lessE x d
          · have he := lessE_tri x d hl (hhi _ d (Nat.le_refl _) hd)
            rw [← he] at hd
            rw [(thereE_iff x).2 hd] at hT
            cases hT
          · rfl
        · rw [if_neg h3] at hc
          rw [show i + 1 - 1 = i - 1 + 1 by omega] at hd
          exact hA (i - 1) c d hc hd
  · have hx := (thereE_iff x).1 hT
    cases hb : ascB (insE M x)
    · rfl
    · have h := (ascB_iff _).1 hb (posE M x) x x (by rw [ins_get M x _ hp, if_neg (by omega), if_pos rfl]) (by rw [ins_get M x _ hp, if_neg (by omega), if_neg (by omega)]; exact hx)
      rw [lessE_irr] at h
      cases h

theorem ins_len (M : List AEnt) (x : AEnt) : (insE M x).length = M.length + 1 := by
  unfold insE
  have h := congrArg List.length (List.take_append_drop (posE M x) M)
  simp only [List.length_append, List.length_cons] at *
  omega
theorem ins_all (M : List AEnt) (x : AEnt) : (insE M x).all AEnt.ok = (x.ok && M.all AEnt.ok) := by
  unfold insE
  rw [List.all_append, List.all_cons]
  have h := congrArg (fun l => l.all AEnt.ok) (List.take_append_drop (posE M x) M)
  simp only [List.all_append] at h
  rw [← h]
  cases (M.take (posE M x)).all AEnt.ok <;> cases x.ok <;> rfl

theorem ins_ok {M : List AEnt} (h : indexOk M = true) (x : AEnt) : indexOk (insE M x) = (x.ok && (decide (M.length < 16) && !(thereE M x))) := by
  have hA := asc_of h
  simp only [indexOk, Bool.and_eq_true, decide_eq_true_eq] at h
  unfold indexOk
  rw [ins_asc hA, ins_all, ins_len, h.2.1, Bool.and_true]
  have : decide (M.length + 1 ≤ 16) = decide (M.length < 16) := rfl
  rw [this]
  cases x.ok <;> cases decide (M.length < 16) <;> rfl

/-- What IndexPut answers. -/
def putOk (L : List AEnt) (x : AEnt) : Bool := indexOk L && (x.ok && (decide (L.length < 16) && !(thereE L x)))
def putL (L : List AEnt) (x : AEnt) : List AEnt := if putOk L x then insE L x else okE L
theorem putL_len (L : List AEnt) (x : AEnt) : (putL L x).length ≤ 17 := by
  unfold putL
  cases h : putOk L x
  · have := okE_len L
    simp; omega
  · simp only [putOk, Bool.and_eq_true, decide_eq_true_eq] at h
    rw [if_pos rfl, ins_len]
    omega

end Go.Proofs.Ytgjhmpgofmmniaa

/- What is carried through the laws of IndexPut and IndexOff, over the seat's translation. -/
namespace Go.Proofs.Ytgjhmpgofmmniaa
open Go.RowKit

/-- The entries L lie in W ahead of block p. -/
def FarE (p : Nat) (a : Option Addr) (L : List AEnt) (W : World) : Prop :=
  L = [] ∨ ∃ b o, a = some ⟨b, o, none⟩ ∧ b < p ∧ ∀ i c, L[i]? = some c → W.rangeAt b (o + i * 4) c.cells
theorem FarE.next {p : Nat} {a : Option Addr} {L : List AEnt} {W W' : World} (h : FarE p a L W) (hb : Below p W W') : FarE p a L W' := by
  rcases h with h | ⟨b, o, e, hlt, hr⟩
  · exact Or.inl h
  · exact Or.inr ⟨b, o, e, hlt, fun i c hc j v hv => by rw [hb.cell (p := ⟨b, _, none⟩) hlt]; exact hr i c hc j v hv⟩
theorem FarE.ents {p : Nat} {a : Option Addr} {L : List AEnt} {W : World} (h : FarE p a L W) (hp : p ≤ W.heap.size) : EntsAt W a L := by
  rcases h with h | ⟨b, o, e, hlt, hr⟩
  · exact Or.inl h
  · exact Or.inr ⟨b, o, e, Nat.lt_of_lt_of_le hlt hp, hr⟩
theorem FarE.of {a : Option Addr} {L : List AEnt} {W : World} (h : EntsAt W a L) : FarE W.heap.size a L W := h
theorem FarE.mono {p q : Nat} {a : Option Addr} {L : List AEnt} {W : World} (h : FarE p a L W) (hp : p ≤ q) : FarE q a L W := by
  rcases h with h | ⟨b, o, e, hlt, hr⟩
  · exact Or.inl h
  · exact Or.inr ⟨b, o, e, Nat.lt_of_lt_of_le hlt hp, hr⟩

/-- What came in: entries, and an entry in its box; all lies ahead of block p. -/
structure InE (w : World) (p : Nat) (a : Option Addr) (L : List AEnt) (x : AEnt) (W : World) : Prop where
  inp : FarE p a L W
  box : W.rangeAt w.heap.size 0 [.int .i64 x.k, .int .i64 x.n, .string x.s, .int .i64 x.id]
  lt : w.heap.size < p
  le : p ≤ W.heap.size
  bel : Below w.heap.size w W
theorem InE.next {w : World} {p : Nat} {a : Option Addr} {L : List AEnt} {x : AEnt} {W W' : World} (h : InE w p a L x W) (hb : Below p W W') : InE w p a L x W' :=
  ⟨h.inp.next hb, fun j v hv => by rw [hb.cell (p := ⟨w.heap.size, _, none⟩) h.lt]; exact h.box j v hv, h.lt, Nat.le_trans h.le hb.size, h.bel.trans (hb.mono (Nat.le_of_lt h.lt))⟩
theorem InE.later {w : World} {p : Nat} {a : Option Addr} {L : List AEnt} {x : AEnt} {W W' : World} (h : InE w p a L x W) (hb : Below W.heap.size W W') : InE w p a L x W' := h.next (hb.mono h.le)
theorem InE.drew {w : World} {p : Nat} {a : Option Addr} {L : List AEnt} {x : AEnt} {W : World} (h : InE w p a L x W) : InE w p a L x W.drew := h.later (Below.refl _ _).drew
theorem InE.up {w : World} {p : Nat} {a : Option Addr} {L : List AEnt} {x : AEnt} {W : World} (h : InE w p a L x W) : InE w W.heap.size a L x W := ⟨h.inp.mono h.le, h.box, Nat.lt_of_lt_of_le h.lt h.le, Nat.le_refl _, h.bel⟩
theorem InE.start {w : World} {a : Option Addr} {L : List AEnt} (x : AEnt) (h : EntsAt w a L) (t : TypeId) : InE w (w.heap.size + 1) a L x (w.alloc (.cells #[.int .i64 x.k, .int .i64 x.n, .string x.s, .int .i64 x.id] t)) :=
  ⟨(h.keep ((Below.refl _ _).alloc (Nat.le_refl _) _)) |> FarE.of |> fun k => by rwa [size_alloc] at k, (Box.start w [.int .i64 x.k, .int .i64 x.n, .string x.s, .int .i64 x.id] t).1, Nat.lt_succ_self _, by simp, (Below.refl _ _).alloc (Nat.le_refl _) _⟩
theorem InE.cells {w : World} {p : Nat} {a : Option Addr} {L : List AEnt} {x : AEnt} {W : World} (h : InE w p a L x W) : W.cell? ⟨w.heap.size, 0, none⟩ = some (.int .i64 x.k) ∧ W.cell? ⟨w.heap.size, 1, none⟩ = some (.int .i64 x.n) ∧ W.cell? ⟨w.heap.size, 2, none⟩ = some (.string x.s) ∧ W.cell? ⟨w.heap.size, 3, none⟩ = some (.int .i64 x.id) :=
  ⟨h.box 0 _ rfl, h.box 1 _ rfl, h.box 2 _ rfl, h.box 3 _ rfl⟩
theorem InE.ents {w : World} {p : Nat} {a : Option Addr} {L : List AEnt} {x : AEnt} {W : World} (h : InE w p a L x W) : EntsAt W a L := h.inp.ents h.le

/-- The same, its box's cells besides. -/
abbrev InC (w : World) (p : Nat) (a : Option Addr) (L : List AEnt) (x : AEnt) (W : World) : Prop :=
  InE w p a L x W ∧ W.cell? ⟨w.heap.size, 0, none⟩ = some (.int .i64 x.k) ∧ W.cell? ⟨w.heap.size, 1, none⟩ = some (.int .i64 x.n) ∧ W.cell? ⟨w.heap.size, 2, none⟩ = some (.string x.s) ∧ W.cell? ⟨w.heap.size, 3, none⟩ = some (.int .i64 x.id)
theorem InE.c {w : World} {p : Nat} {a : Option Addr} {L : List AEnt} {x : AEnt} {W : World} (h : InE w p a L x W) : InC w p a L x W := ⟨h, h.cells⟩
theorem inc_later {w : World} {p : Nat} {a : Option Addr} {L : List AEnt} {x : AEnt} {W W' : World} (h : InC w p a L x W) (hb : Below W.heap.size W W') : InC w p a L x W' := (h.1.later hb).c
theorem inc_drew {w : World} {p : Nat} {a : Option Addr} {L : List AEnt} {x : AEnt} {W : World} (h : InC w p a L x W) : InC w p a L x W.drew := inc_later h (Below.refl _ _).drew

theorem row_any {base : Nat} {v : Value} {L : List AEnt} {W : World} (h : RowE base v L W) : ∃ a c, v = .slice a L.length c ∧ EntsAt W a L := by
  obtain ⟨a, c, h1, -, -, h2⟩ := h.slice
  exact ⟨a, c, h1, h2⟩

theorem RowE.same {base : Nat} {a : Option Addr} {n c : Nat} {L : List AEnt} {W : World} (h : RowE base (.slice a n c) L W) : EntsAt W a L := by
  obtain ⟨a', c', e, h2⟩ := row_any h
  cases e
  exact h2

/-- Besides, what the specification answers. -/
structure SpE (w : World) (p : Nat) (a : Option Addr) (L : List AEnt) (x : AEnt) (aw : Option Addr) (N : List AEnt) (W : World) : Prop where
  ine : InE w p a L x W
  sp : FarE p aw N W
theorem SpE.next {w : World} {p : Nat} {a : Option Addr} {L : List AEnt} {x : AEnt} {aw : Option Addr} {N : List AEnt} {W W' : World} (h : SpE w p a L x aw N W) (hb : Below p W W') : SpE w p a L x aw N W' := ⟨h.ine.next hb, h.sp.next hb⟩
theorem SpE.later {w : World} {p : Nat} {a : Option Addr} {L : List AEnt} {x : AEnt} {aw : Option Addr} {N : List AEnt} {W W' : World} (h : SpE w p a L x aw N W) (hb : Below W.heap.size W W') : SpE w p a L x aw N W' := h.next (hb.mono h.ine.le)
theorem SpE.ents {w : World} {p : Nat} {a : Option Addr} {L : List AEnt} {x : AEnt} {aw : Option Addr} {N : List AEnt} {W : World} (h : SpE w p a L x aw N W) : EntsAt W aw N := h.sp.ents h.ine.le

/-- Besides, the entries made anew at block p. -/
abbrev XE (w : World) (p : Nat) (a : Option Addr) (L : List AEnt) (x : AEnt) (aw : Option Addr) (N : List AEnt) (W : World) : Prop :=
  (SpE w p a L x aw N W ∧ p < W.heap.size ∧ EntsAt W (some ⟨p, 0, none⟩) L ∧ W.there p 0 (L.length * 4)) ∧ W.cell? ⟨w.heap.size, 0, none⟩ = some (.int .i64 x.k) ∧ W.cell? ⟨w.heap.size, 1, none⟩ = some (.int .i64 x.n) ∧ W.cell? ⟨w.heap.size, 2, none⟩ = some (.string x.s) ∧ W.cell? ⟨w.heap.size, 3, none⟩ = some (.int .i64 x.id)
theorem xe_later {w : World} {p : Nat} {a : Option Addr} {L : List AEnt} {x : AEnt} {aw : Option Addr} {N : List AEnt} {W W' : World} (h : XE w p a L x aw N W) (hb : Below W.heap.size W W') : XE w p a L x aw N W' := by
  obtain ⟨⟨h1, h2, h3, h4⟩, _⟩ := h
  have h1' := h1.later hb
  exact ⟨⟨h1', Nat.lt_of_lt_of_le h2 hb.size, h3.keep hb, there_next h4 h2 hb⟩, h1'.ine.cells⟩
theorem xe_drew {w : World} {p : Nat} {a : Option Addr} {L : List AEnt} {x : AEnt} {aw : Option Addr} {N : List AEnt} {W : World} (h : XE w p a L x aw N W) : XE w p a L x aw N W.drew := xe_later h (Below.refl _ _).drew

/-- Block g bears the marks of n entries from 1 on. -/
def MkE (g n : Nat) (W : World) : Prop := g < W.heap.size ∧ ∀ j, j < n → W.rangeAt g (j * 4) (mkEnt (1 + 4 * j)).cells
theorem MkE.next {g n : Nat} {W W' : World} (h : MkE g n W) (hb : Below W.heap.size W W') : MkE g n W' := ⟨Nat.lt_of_lt_of_le h.1 hb.size, fun j hj => range_next (h.2 j hj) h.1 hb⟩
/-- What the specification answers, and marks. -/
abbrev YE (w : World) (p : Nat) (a : Option Addr) (L : List AEnt) (x : AEnt) (aw : Option Addr) (N : List AEnt) (g n : Nat) (W : World) : Prop :=
  (SpE w p a L x aw N W ∧ MkE g n W) ∧ W.cell? ⟨w.heap.size, 0, none⟩ = some (.int .i64 x.k) ∧ W.cell? ⟨w.heap.size, 1, none⟩ = some (.int .i64 x.n) ∧ W.cell? ⟨w.heap.size, 2, none⟩ = some (.string x.s) ∧ W.cell? ⟨w.heap.size, 3, none⟩ = some (.int .i64 x.id)
theorem ye_later {w : World} {p : Nat} {a : Option Addr} {L : List AEnt} {x : AEnt} {aw : Option Addr} {N : List AEnt} {g n : Nat} {W W' : World} (h : YE w p a L x aw N g n W) (hb : Below W.heap.size W W') : YE w p a L x aw N g n W' := by
  obtain ⟨⟨h1, h2⟩, _⟩ := h
  have h1' := h1.later hb
  exact ⟨⟨h1', h2.next hb⟩, h1'.ine.cells⟩
theorem ye_drew {w : World} {p : Nat} {a : Option Addr} {L : List AEnt} {x : AEnt} {aw : Option Addr} {N : List AEnt} {g n : Nat} {W : World} (h : YE w p a L x aw N g n W) : YE w p a L x aw N g n W.drew := ye_later h (Below.refl _ _).drew

/-- A row's block, or any block where there is no entry. -/
theorem RowE.block {base : Nat} {a : Option Addr} {n c : Nat} {L : List AEnt} {W : World} (h : RowE base (.slice a n c) L W) (hb : base < W.heap.size) (hn : n = L.length) : ∃ g, (a = some ⟨g, 0, none⟩ ∨ n = 0) ∧ base ≤ g ∧ g < W.heap.size ∧ W.there g 0 (n * 4) := by
  rcases h with ⟨hv, hL⟩ | ⟨b, cap, hv, h1, h2, _, _, h5⟩
  · subst hL
    subst hn
    exact ⟨base, Or.inr rfl, Nat.le_refl _, hb, fun j hj => by simp at hj⟩
  · cases hv
    exact ⟨b, Or.inl rfl, h1, h2, h5⟩
theorem RowE.turn {base B : Nat} {v : Value} {L : List AEnt} {W W' : World} (h : RowE base v L W) (ht : Turn B W W') (hB : B < base) : RowE base v L W' := by
  rcases h with h | ⟨b, cap, hv, h1, h2, h3, h4, h5⟩
  · exact Or.inl h
  · have hne : b ≠ B := by omega
    refine Or.inr ⟨b, cap, hv, h1, Nat.lt_of_lt_of_le h2 ht.size, h3, ht.ents h4 (Or.inr fun b' o' e => by cases e; exact hne), fun j hj => ?_⟩
    rw [ht.cell h2 hne, ht.frozen h2 hne]
    exact h5 j hj

end Go.Proofs.Ytgjhmpgofmmniaa
