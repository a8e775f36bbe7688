/- Contracts of impl.compareVals and spec.ValLess, over the seat's translation. -/
import Derived.Test.YtobblnlefhkanaaG04
import Derived.Test.YtobblnlefhkanaaG02
import Derived.Sort.Walk0
import Derived.Test.YtobblnlefhkanaaG03
namespace Go.Proofs.Ytobblnlefhkanaa
open Go.RowKit

def cmpV (k1 n1 : Int) (s1 : ByteArray) (k2 n2 : Int) (s2 : ByteArray) : Int := orI (cmpI k1 k2) (cmpI n1 n2) (cmpS s1 s2)

set_option maxHeartbeats 400000 in
theorem compare_vals (k1 n1 : Int) (s1 : ByteArray) (k2 n2 : Int) (s2 : ByteArray) (w : World) :
    Calls Try.prog 59 #[.agg #[.int .i64 k1, .int .i64 n1, .string s1], .agg #[.int .i64 k2, .int .i64 n2, .string s2]] w fun e w' => e = .returned (.int .i64 (cmpV k1 n1 s1 k2 n2 s2)) ∧ Below w.heap.size w w' := by
  go_enter Try.func59, Try.ntmps59
  go_wp2
  go_region_held3 (fun w' => w'.cell? ⟨w.heap.size, 0, none⟩ = some (.int .i64 k1) ∧ w'.cell? ⟨w.heap.size, 1, none⟩ = some (.int .i64 n1) ∧ w'.cell? ⟨w.heap.size, 2, none⟩ = some (.string s1) ∧ w'.cell? ⟨w.heap.size + 1, 0, none⟩ = some (.int .i64 k2) ∧ w'.cell? ⟨w.heap.size + 1, 1, none⟩ = some (.int .i64 n2) ∧ w'.cell? ⟨w.heap.size + 1, 2, none⟩ = some (.string s2)) (go_keep)
    (first
      | (go_at_call 60; refine (cmp_int _ _ _).mono ?_; rintro e w' ⟨rfl, rfl⟩)
      | (go_at_call 67; refine (cmp_str _ _ _).mono ?_; rintro e w' ⟨rfl, rfl⟩)
      | (go_at_call 58; refine (or_three (cmpI k1 k2) (cmpI n1 n2) (cmpS s1 s2) _ _ ?_ ?_ ?_).mono ?_; (go_simp); (go_simp); (go_simp); rintro e w' ⟨rfl, rfl⟩))
  go_wp2
  go_ret
  refine ⟨rfl, ?_⟩
  exact ((((Below.refl _ _).alloc (Nat.le_refl _) _).alloc (by simp) _).alloc (by simp; omega) _).drew

def lessV (k1 n1 : Int) (s1 : ByteArray) (k2 n2 : Int) (s2 : ByteArray) : Bool := decide (cmpV k1 n1 s1 k2 n2 s2 < 0)

def bad (s t : ByteArray) : Bool := Op.bytesLess s.toList t.toList
theorem less_eq (k1 n1 : Int) (s1 : ByteArray) (k2 n2 : Int) (s2 : ByteArray) :
    lessV k1 n1 s1 k2 n2 s2 = (if k1 = k2 then (if n1 = n2 then bad s1 s2 else decide (n1 < n2)) else decide (k1 < k2)) := by
  unfold lessV cmpV orI cmpI cmpS bad
  by_cases h1 : k1 = k2
  · subst h1
    by_cases h2 : n1 = n2
    · subst h2
      cases h3 : Op.bytesLess s1.toList s2.toList <;> simp
      split <;> simp
    · simp [h2]
      by_cases h4 : n1 < n2
      · simp [h4]
      · have : n2 < n1 := by omega
        simp [h4, this]
  · simp [h1]
    by_cases h4 : k1 < k2
    · simp [h4]
    · have : k2 < k1 := by omega
      simp [h4, this]

set_option maxHeartbeats 400000 in
theorem spec_less (k1 n1 : Int) (s1 : ByteArray) (k2 n2 : Int) (s2 : ByteArray) (w : World) :
    Calls Try.prog 43 #[.agg #[.int .i64 k1, .int .i64 n1, .string s1], .agg #[.int .i64 k2, .int .i64 n2, .string s2]] w fun e w' => e = .returned (.bool (lessV k1 n1 s1 k2 n2 s2)) ∧ Below w.heap.size w w' := by
  rw [less_eq]
  go_enter Try.func43, Try.ntmps43
  go_wp2
  all_goals
    go_ret
    refine ⟨?_, (((Below.refl _ _).alloc (Nat.le_refl _) _).alloc (by simp) _)⟩
    simp_all [bad]

end Go.Proofs.Ytobblnlefhkanaa

/- The order of entries, and what is right of them. -/
namespace Go.Proofs.Ytobblnlefhkanaa
open Go.RowKit

/-- One ahead of, at, or behind the other: below 0, 0, or above. -/
def cmpE (a b : AEnt) : Int := if cmpV a.k a.n a.s b.k b.n b.s = 0 then cmpI a.id b.id else cmpV a.k a.n a.s b.k b.n b.s
def eqV (a b : AEnt) : Bool := a.k == b.k && (a.n == b.n && a.s.toList == b.s.toList)
def lessE (a b : AEnt) : Bool := if eqV a b then decide (a.id < b.id) else lessV a.k a.n a.s b.k b.n b.s
def eqE (a b : AEnt) : Bool := eqV a b && a.id == b.id
def AEnt.ok (e : AEnt) : Bool := valOk e.k e.n e.s && (decide (1 ≤ e.id) && decide (e.id ≤ 60))

theorem bl_irr (a : List UInt8) : Op.bytesLess a a = false := by
  rw [bytesLess_eq, decide_eq_false_iff_not]; exact List.lt_irrefl a
theorem bl_asym (a b : List UInt8) (h : Op.bytesLess a b = true) : Op.bytesLess b a = false := by
  rw [bytesLess_eq, decide_eq_true_eq] at h
  rw [bytesLess_eq, decide_eq_false_iff_not]; exact List.lt_asymm h
theorem bl_trans (a b c : List UInt8) (h : Op.bytesLess a b = true) (k : Op.bytesLess b c = true) : Op.bytesLess a c = true := by
  rw [bytesLess_eq, decide_eq_true_eq] at h k ⊢
  exact List.lt_trans h k
theorem bl_tri (a b : List UInt8) (h : Op.bytesLess a b = false) (k : Op.bytesLess b a = false) : a = b := by
  rw [bytesLess_eq, decide_eq_false_iff_not] at h k
  exact List.le_antisymm (List.not_lt.1 k) (List.not_lt.1 h)

theorem eqV_iff (a b : AEnt) : eqV a b = true ↔ a.k = b.k ∧ a.n = b.n ∧ a.s.toList = b.s.toList := by simp [eqV]
theorem toList_inj {s t : ByteArray} (h : s.toList = t.toList) : s = t := by
  rw [Lib.toList_data, Lib.toList_data] at h
  cases s; cases t
  simp at h
  rw [h]
theorem eqV_ext {a b : AEnt} (h : eqV a b = true) : a.k = b.k ∧ a.n = b.n ∧ a.s = b.s := by
  obtain ⟨h1, h2, h3⟩ := (eqV_iff a b).1 h
  exact ⟨h1, h2, toList_inj h3⟩
theorem eqE_ext {a b : AEnt} (h : eqE a b = true) : a = b := by
  simp only [eqE, Bool.and_eq_true, beq_iff_eq] at h
  obtain ⟨h1, h2, h3⟩ := eqV_ext h.1
  cases a; cases b
  simp_all
theorem eqV_refl (a : AEnt) : eqV a a = true := by simp [eqV]
theorem eqE_refl (a : AEnt) : eqE a a = true := by simp [eqE, eqV]
theorem eqE_iff (a b : AEnt) : eqE a b = true ↔ a = b := ⟨eqE_ext, fun h => h ▸ eqE_refl a⟩

/-- The four are held against each other one by one. -/
theorem lessE_eq (a b : AEnt) : lessE a b = (if a.k = b.k then (if a.n = b.n then (if a.s.toList = b.s.toList then decide (a.id < b.id) else bad a.s b.s) else decide (a.n < b.n)) else decide (a.k < b.k)) := by
  unfold lessE
  rw [less_eq]
  by_cases h1 : a.k = b.k
  · by_cases h2 : a.n = b.n
    · by_cases h3 : a.s.toList = b.s.toList
      · simp [eqV, h1, h2, h3]
      · simp [eqV, h1, h2, h3]
    · simp [eqV, h1, h2]
  · simp [eqV, h1]

theorem lessE_irr (a : AEnt) : lessE a a = false := by rw [lessE_eq]; simp
def lx (k1 n1 : Int) (l1 : List UInt8) (i1 k2 n2 : Int) (l2 : List UInt8) (i2 : Int) : Bool :=
  if k1 = k2 then (if n1 = n2 then (if l1 = l2 then decide (i1 < i2) else Op.bytesLess l1 l2) else decide (n1 < n2)) else decide (k1 < k2)
theorem lx_trans (k1 n1 : Int) (l1 : List UInt8) (i1 k2 n2 : Int) (l2 : List UInt8) (i2 k3 n3 : Int) (l3 : List UInt8) (i3 : Int) (h : lx k1 n1 l1 i1 k2 n2 l2 i2 = true) (k : lx k2 n2 l2 i2 k3 n3 l3 i3 = true) : lx k1 n1 l1 i1 k3 n3 l3 i3 = true := by
  unfold lx at *
  by_cases p : k1 = k2
  · subst p
    by_cases q : k1 = k3
    · subst q
      by_cases r : n1 = n2
      · subst r
        by_cases t : n1 = n3
        · subst t
          by_cases x : l1 = l2
          · subst x
            by_cases y : l1 = l3
            · subst y
              simp only [if_true, decide_eq_true_eq] at *
              omega
            · simp only [if_true, if_neg y] at *; exact k
          · by_cases y : l2 = l3
            · subst y; simp only [if_true, if_neg x] at *; exact h
            · simp only [if_true, if_neg x, if_neg y] at *
              have hk := bl_trans _ _ _ h k
              have : ¬ l1 = l3 := fun e => by rw [e, bl_irr] at hk; cases hk
              simp only [if_neg this]; exact hk
        · simp only [if_true, if_neg t] at *; exact k
      · by_cases t : n2 = n3
        · subst t; simp only [if_true, if_neg r] at *; exact h
        · simp only [if_true, if_neg r, if_neg t, decide_eq_true_eq] at *
          rw [if_neg (by omega), decide_eq_true_eq]; omega
    · simp only [if_true, if_neg q] at *; exact k
  · by_cases q : k2 = k3
    · subst q; simp only [if_neg p] at *; exact h
    · simp only [if_neg p, if_neg q, decide_eq_true_eq] at *
      rw [if_neg (by omega), decide_eq_true_eq]; omega
theorem lessE_trans (a b c : AEnt) (h : lessE a b = true) (k : lessE b c = true) : lessE a c = true := by
  rw [lessE_eq] at *
  exact lx_trans _ _ _ _ _ _ _ _ _ _ _ _ h k
theorem lessE_asym (a b : AEnt) (h : lessE a b = true) : lessE b a = false := by
  cases k : lessE b a
  · rfl
  · have := lessE_trans a b a h k
    rw [lessE_irr] at this
    cases this
theorem lessE_tri (a b : AEnt) (h : lessE a b = false) (k : lessE b a = false) : a = b := by
  rw [lessE_eq] at h k
  unfold bad at h k
  have h1 : a.k = b.k := by
    by_cases p : a.k = b.k
    · exact p
    · rw [if_neg p, decide_eq_false_iff_not] at h
      rw [if_neg (fun e => p e.symm), decide_eq_false_iff_not] at k
      omega
  rw [h1] at h k
  simp only [if_true] at h k
  have h2 : a.n = b.n := by
    by_cases p : a.n = b.n
    · exact p
    · rw [if_neg p, decide_eq_false_iff_not] at h
      rw [if_neg (fun e => p e.symm), decide_eq_false_iff_not] at k
      omega
  rw [h2] at h k
  simp only [if_true] at h k
  have h3 : a.s.toList = b.s.toList := by
    by_cases p : a.s.toList = b.s.toList
    · exact p
    · rw [if_neg p] at h
      rw [if_neg (fun e => p e.symm)] at k
      exact bl_tri _ _ h k
  rw [h3] at h k
  simp only [if_true, decide_eq_false_iff_not] at h k
  have h4 : a.id = b.id := by omega
  exact eqE_ext (by simp [eqE, eqV, h1, h2, h3, h4])

theorem cmpV_eq (k1 n1 : Int) (s1 : ByteArray) (k2 n2 : Int) (s2 : ByteArray) :
    cmpV k1 n1 s1 k2 n2 s2 = if k1 = k2 ∧ n1 = n2 ∧ s1.toList = s2.toList then 0 else if lessV k1 n1 s1 k2 n2 s2 then -1 else 1 := by
  unfold lessV
  have h : cmpV k1 n1 s1 k2 n2 s2 = 0 ∨ cmpV k1 n1 s1 k2 n2 s2 = 1 ∨ cmpV k1 n1 s1 k2 n2 s2 = -1 := by
    unfold cmpV orI cmpI cmpS
    repeat' split
    all_goals omega
  have h0 : cmpV k1 n1 s1 k2 n2 s2 = 0 ↔ k1 = k2 ∧ n1 = n2 ∧ s1.toList = s2.toList := by
    unfold cmpV orI cmpI cmpS
    by_cases p : k1 = k2
    · subst p
      by_cases q : n1 = n2
      · subst q
        by_cases r : s1.toList = s2.toList
        · simp [r, bl_irr]
        · cases x : Op.bytesLess s1.toList s2.toList <;> simp [r]
      · by_cases x : n1 < n2
        · simp [q, x]
        · have : n2 < n1 := by omega
          simp [q, x, this]
    · by_cases x : k1 < k2
      · simp [p, x]
      · have : k2 < k1 := by omega
        simp [p, x, this]
  rcases h with h | h | h
  · rw [if_pos (h0.1 h), h]
  · rw [if_neg (fun e => by rw [h0.2 e] at h; omega), h]; rfl
  · rw [if_neg (fun e => by rw [h0.2 e] at h; omega), h]; rfl
theorem cmpE_eq (a b : AEnt) : cmpE a b = if lessE a b then -1 else if eqE a b then 0 else 1 := by
  unfold cmpE lessE eqE
  rw [cmpV_eq]
  by_cases h : eqV a b = true
  · rw [if_pos ((eqV_iff a b).1 h)]
    simp only [h, if_true, Bool.true_and, cmpI]
    by_cases x : a.id < b.id
    · simp [x]
    · by_cases y : a.id = b.id
      · simp [y]
      · have : b.id < a.id := by omega
        simp [x, y, this]
  · have h' : ¬ (a.k = b.k ∧ a.n = b.n ∧ a.s.toList = b.s.toList) := fun e => h ((eqV_iff a b).2 e)
    simp only [Bool.not_eq_true] at h
    rw [if_neg h']
    simp only [h]
    cases lessV a.k a.n a.s b.k b.n b.s <;> simp
theorem cmpE_lt (a b : AEnt) : decide (cmpE a b < 0) = lessE a b := by
  rw [cmpE_eq]
  cases lessE a b
  · cases eqE a b <;> rfl
  · rfl
theorem cmpE_zero (a b : AEnt) : (cmpE a b == 0) = eqE a b := by
  rw [cmpE_eq]
  cases h : lessE a b
  · cases eqE a b <;> rfl
  · cases k : eqE a b
    · rfl
    · rw [eqE_ext k, lessE_irr] at h; cases h

/-- Each stands ahead of the next. -/
def Asc (L : List AEnt) : Prop := ∀ i c d, L[i]? = some c → L[i + 1]? = some d → lessE c d = true
def ascB (L : List AEnt) : Bool := (List.range L.length).all fun i => match L[i]?, L[i + 1]? with | some c, some d => lessE c d | _, _ => true
theorem ascB_iff (L : List AEnt) : ascB L = true ↔ Asc L := by
  unfold ascB Asc
  rw [List.all_eq_true]
  constructor
  · intro h i c d hc hd
    have := h i (List.mem_range.2 (List.getElem?_eq_some_iff.1 hc).1)
    simpa [hc, hd] using this
  · intro h i hi
    have hi := List.mem_range.1 hi
    rw [List.getElem?_eq_getElem hi]
    cases hd : L[i + 1]? with
    | none => rfl
    | some d => exact h i _ d (List.getElem?_eq_getElem hi) hd
theorem Asc.lt {L : List AEnt} (h : Asc L) {i j : Nat} {c d : AEnt} (hij : i < j) (hc : L[i]? = some c) (hd : L[j]? = some d) : lessE c d = true := by
  induction j generalizing d with
  | zero => omega
  | succ j ih =>
    have hj : j < L.length := by have := (List.getElem?_eq_some_iff.1 hd).1; omega
    have he := List.getElem?_eq_getElem hj
    by_cases hij' : i = j
    · subst hij'; exact h i c d hc hd
    · exact lessE_trans _ _ _ (ih (by omega) he) (h j _ d he hd)

def indexOk (L : List AEnt) : Bool := decide (L.length ≤ 16) && (L.all AEnt.ok && ascB L)

theorem all_ok {L : List AEnt} (h : ∀ i c, i < L.length → L[i]? = some c → c.ok = true) : L.all AEnt.ok = true := by
  rw [List.all_eq_true]
  intro c hc
  obtain ⟨i, hi, he⟩ := List.getElem_of_mem hc
  exact h i c hi (by rw [List.getElem?_eq_getElem hi, he])
theorem all_bad {L : List AEnt} {k : Nat} {c : AEnt} (hc : L[k]? = some c) (h : c.ok = false) : L.all AEnt.ok = false := by
  rw [List.all_eq_false]
  obtain ⟨hk, e⟩ := List.getElem?_eq_some_iff.1 hc
  exact ⟨c, e ▸ List.getElem_mem hk, by simp [h]⟩
theorem asc_bad {L : List AEnt} {k : Nat} {c d : AEnt} (hc : L[k]? = some c) (hd : L[k + 1]? = some d) (h : lessE c d = false) : ascB L = false := by
  cases k' : ascB L
  · rfl
  · have := (ascB_iff L).1 k' k c d hc hd
    rw [h] at this; cases this

end Go.Proofs.Ytobblnlefhkanaa

/- The contracts of cmp.Or at two, impl.compareEntries and impl.entryOk, over the seat's translation. -/
namespace Go.Proofs.Ytobblnlefhkanaa
open Go.RowKit

def orTwo (x y : Int) : Int := if x = 0 then y else x

theorem or_two (x y : Int) (g : Nat) (w : World) (h0 : w.cell? ⟨g, 0, none⟩ = some (.int .i64 x)) (h1 : w.cell? ⟨g, 1, none⟩ = some (.int .i64 y)) :
    Calls Try.prog 58 #[.slice (some ⟨g, 0, none⟩) 2 2] w fun e w' => e = .returned (.int .i64 (orTwo x y)) ∧ w' = w := by
  go_enter Try.func58, Try.ntmps58
  go_wp2
  go_loop [5, 8] (fun _ i => ∃ k : Nat, k ≤ 2 ∧ i = .int .i64 k ∧ (1 ≤ k → x = 0) ∧ (2 ≤ k → y = 0)) (fun _ i => 2 - (intOf i).toNat)
  case atStart => exact ⟨0, Nat.zero_le _, rfl, by omega, by omega⟩
  case round =>
    obtain ⟨k, hk, rfl, kx, ky⟩ := hrel
    have hh : k = 0 ∨ k = 1 ∨ k = 2 := by omega
    rcases hh with rfl | rfl | rfl
    · clear kx ky
      go_wp2
      · go_ret
        refine ⟨ret_int ?_, rfl⟩
        have hx : ¬ x = 0 := by simp_all
        simp [orTwo, hx]
      · have hx : x = 0 := by simp_all
        go_round
        case rel => exact ⟨1, by omega, rfl, fun _ => hx, by omega⟩
        case measure => simp [intOf]
    · have hx := kx (by omega)
      clear kx ky
      go_wp2
      · go_ret
        refine ⟨ret_int ?_, rfl⟩
        simp [orTwo]
      · have hy : y = 0 := by simp_all
        go_round
        case rel => exact ⟨2, by omega, rfl, fun _ => hx, fun _ => hy⟩
        case measure => simp [intOf]
    · have hx := kx (by omega)
      have hy := ky (by omega)
      clear kx ky
      go_wp2
      go_ret
      exact ⟨ret_int (by simp [orTwo]), rfl⟩

/-- Two entries lie in boxes in W, and W lies over w. -/
abbrev TwoBox (w : World) (x y : AEnt) (W : World) : Prop :=
  W.cell? ⟨w.heap.size, 0, none⟩ = some (.int .i64 x.k) ∧ W.cell? ⟨w.heap.size, 1, none⟩ = some (.int .i64 x.n) ∧ W.cell? ⟨w.heap.size, 2, none⟩ = some (.string x.s) ∧ W.cell? ⟨w.heap.size, 3, none⟩ = some (.int .i64 x.id) ∧
  W.cell? ⟨w.heap.size + 1, 0, none⟩ = some (.int .i64 y.k) ∧ W.cell? ⟨w.heap.size + 1, 1, none⟩ = some (.int .i64 y.n) ∧ W.cell? ⟨w.heap.size + 1, 2, none⟩ = some (.string y.s) ∧ W.cell? ⟨w.heap.size + 1, 3, none⟩ = some (.int .i64 y.id) ∧ w.heap.size + 2 ≤ W.heap.size ∧ Below w.heap.size w W
theorem twob_next {w : World} {x y : AEnt} {W W' : World} (h : TwoBox w x y W) (hb : Below W.heap.size W W') : TwoBox w x y W' := by
  obtain ⟨h0, h1, h2, h3, g0, g1, g2, g3, hz, hB⟩ := h
  have hc := (bcell hb).1
  have hs := hb.size
  exact ⟨by rw [hc _ _ (by omega)]; exact h0, by rw [hc _ _ (by omega)]; exact h1, by rw [hc _ _ (by omega)]; exact h2, by rw [hc _ _ (by omega)]; exact h3,
    by rw [hc _ _ (by omega)]; exact g0, by rw [hc _ _ (by omega)]; exact g1, by rw [hc _ _ (by omega)]; exact g2, by rw [hc _ _ (by omega)]; exact g3, by omega, hB.trans (hb.mono (by omega))⟩
theorem twob_drew {w : World} {x y : AEnt} {W : World} (h : TwoBox w x y W) : TwoBox w x y W.drew := twob_next h (Below.refl _ _).drew
theorem twob_start (w : World) (x y : AEnt) (t : TypeId) : TwoBox w x y ((w.alloc (.cells #[.int .i64 x.k, .int .i64 x.n, .string x.s, .int .i64 x.id] t)).alloc (.cells #[.int .i64 y.k, .int .i64 y.n, .string y.s, .int .i64 y.id] t)) := by
  refine ⟨?_, ?_, ?_, ?_, ?_, ?_, ?_, ?_, by simp, ((Below.refl _ _).alloc (Nat.le_refl _) _).alloc (by simp) _⟩
  all_goals go_simp

set_option maxRecDepth 100000 in
set_option maxHeartbeats 2000000 in
theorem compare_entries (x y : AEnt) (w : World) :
    Calls Try.prog 50 #[.agg #[.int .i64 x.k, .int .i64 x.n, .string x.s, .int .i64 x.id], .agg #[.int .i64 y.k, .int .i64 y.n, .string y.s, .int .i64 y.id]] w fun e w' => e = .returned (.int .i64 (cmpE x y)) ∧ Below w.heap.size w w' := by
  have hT := twob_start w x y 38
  have hE : Hid (cmpE x y = orTwo (cmpV x.k x.n x.s y.k y.n y.s) (cmpI x.id y.id)) := rfl
  go_enter Try.func50, Try.ntmps50
  go_wp2_with fail
  go_region_held3 (fun W => TwoBox w x y W) (first | assumption | exact twob_drew (by assumption) | exact twob_next (by assumption) ((Below.refl _ _).alloc (Nat.le_refl _) _))
    (first
      | (go_at_call 59; refine (compare_vals _ _ _ _ _ _ _).mono ?_; rintro e w' ⟨rfl, hb⟩; have hN := twob_next (by assumption) hb; clear hb)
      | (go_at_call 60; refine (cmp_int _ _ _).mono ?_; rintro e w' ⟨rfl, rfl⟩)
      | (go_at_call 58; refine (or_two (cmpV x.k x.n x.s y.k y.n y.s) (cmpI x.id y.id) _ _ ?_ ?_).mono ?_; (go_simp); (go_simp); rintro e w' ⟨rfl, rfl⟩))
  go_wp2_with fail
  go_ret
  have hZ := ‹TwoBox w x y _›
  exact ⟨ret_int hE.out.symm, hZ.2.2.2.2.2.2.2.2.2⟩

set_option maxRecDepth 100000 in
set_option maxHeartbeats 1000000 in
theorem entry_ok (x : AEnt) (w : World) (hf : x.fit) :
    Calls Try.prog 41 #[.agg #[.int .i64 x.k, .int .i64 x.n, .string x.s, .int .i64 x.id]] w fun e w' => e = .returned (.bool x.ok) ∧ Below w.heap.size w w' := by
  have hX := Box.start w [.int .i64 x.k, .int .i64 x.n, .string x.s, .int .i64 x.id] 38
  have H1 : Hid (Box w.heap.size [.int .i64 x.k, .int .i64 x.n, .string x.s, .int .i64 x.id] (w.alloc (.cells #[.int .i64 x.k, .int .i64 x.n, .string x.s, .int .i64 x.id] 38))) := hX
  clear hX
  go_enter Try.func41, Try.ntmps41
  go_wp2_with fail
  refine (impl_ok _ _ _ _ hf).mono ?_
  rintro e w' ⟨rfl, hb⟩
  have hB : Hid (Below w.heap.size w w') := ((Below.refl _ _).alloc (Nat.le_refl _) _).trans (hb.mono (by simp))
  have g := (H1.out.next hb).four
  clear hb H1
  cases hok : valOk x.k x.n x.s
  · go_wp2_with fail
    go_ret
    exact ⟨ret_bool (by rw [AEnt.ok, hok]; rfl), hB.out⟩
  · go_wp2_with fail
    all_goals
      go_ret
      refine ⟨ret_bool ?_, hB.out⟩
      rw [AEnt.ok, hok, Bool.eq_iff_iff]
      simp only [Bool.true_and, Bool.and_eq_true, decide_eq_true_eq, Bool.false_eq_true, false_iff]
      omega

end Go.Proofs.Ytobblnlefhkanaa

/- The contracts of impl.allOk and impl.ascends at entries, over the seat's translation. -/
namespace Go.Proofs.Ytobblnlefhkanaa
open Go.RowKit

theorem ok_next {L : List AEnt} {k : Nat} {d : AEnt} (h : ∀ i c, i < k → L[i]? = some c → c.ok = true) (hd : L[k]? = some d) (hok : d.ok = true) : ∀ i c, i < k + 1 → L[i]? = some c → c.ok = true := fun i c hi hc => by
  by_cases hik : i = k
  · subst hik; rw [hd] at hc; cases hc; exact hok
  · exact h i c (by omega) hc

set_option maxRecDepth 100000 in
set_option maxHeartbeats 1000000 in
theorem all_entries (a : Option Addr) (cap : Nat) (L : List AEnt) (w : World) (ha : EntsAt w a L) (hf : ∀ c ∈ L, c.fit) (hm : L.length ≤ maxLen) :
    Calls Try.prog 48 #[.slice a L.length cap, .func (.func 41) #[] #[]] w fun e w' => e = .returned (.bool (L.all AEnt.ok)) ∧ Below w.heap.size w w' := by
  unfold maxLen at hm
  go_enter Try.func48, Try.ntmps48
  go_wp2_with fail
  go_loopw [9] (fun i wr => ∃ k : Nat, k ≤ L.length ∧ i = .int .i64 k ∧ Hid ((∀ i c, i < k → L[i]? = some c → c.ok = true) ∧ Below w.heap.size w wr)) (fun i _ => L.length - (intOf i).toNat)
  case atStart => exact ⟨0, Nat.zero_le _, rfl, ⟨fun i c hi => absurd hi (Nat.not_lt_zero _), Below.refl _ _⟩⟩
  case round =>
    obtain ⟨k, hk, rfl, hH⟩ := hrel
    by_cases hlt : k < L.length
    · obtain ⟨b, o, hab, hbl, hr⟩ := (ha.keep hH.out.2).at hlt
      have hc := List.getElem?_eq_getElem hlt
      have hft := hf _ (List.getElem_mem hlt)
      revert hr hc hft
      generalize L[k] = c
      intro hr hc hft
      have hix : ∀ wx, (Instr.indexAt 25 (.slice a L.length cap) (.int .i64 k)).run Try.prog wx = .ok (.pointer (some ⟨b, o + k * 4, none⟩)) wx := fun wx => by
        rw [hab]; exact run_ix4 _ _ _ _ _ _ _ wx hlt Try.underlying25 (Try.sizeOf38 wx)
      have hT := cells4_of hr
      have H1 : Hid (Below wr.heap.size wr (wr.alloc (.cells #[.int .i64 c.k, .int .i64 c.n, .string c.s, .int .i64 c.id] 38))) := (Below.refl _ _).alloc (Nat.le_refl _) _
      have hC : Hid (L[k]? = some c ∧ c.fit) := ⟨hc, hft⟩
      clear hab hr ha hbl hc hft hf
      go_wp2_with fail
      refine (entry_ok c _ hC.out.2).mono ?_
      rintro e w' ⟨rfl, hq⟩
      have hP : Hid (Below w.heap.size w w') := hH.out.2.trans ((H1.out.trans (hq.mono H1.out.size)).mono hH.out.2.size)
      clear hT hq H1
      cases hs : c.ok
      · go_wp2_with fail
        go_ret
        exact ⟨ret_bool (all_bad hC.out.1 hs).symm, hP.out⟩
      · go_wp2_with fail
        go_roundw
        case rel => exact ⟨k + 1, by omega, by go_num, ⟨ok_next hH.out.1 hC.out.1 hs, hP.out⟩⟩
        case measure => simp [intOf]; omega
    · have hkl : k = L.length := by omega
      subst hkl
      go_wp2_with fail
      go_ret
      exact ⟨ret_bool (all_ok hH.out.1).symm, hH.out.2⟩

set_option maxRecDepth 100000 in
set_option maxHeartbeats 2000000 in
theorem ascends_entries (a : Option Addr) (cap : Nat) (L : List AEnt) (w : World) (ha : EntsAt w a L) (hm : L.length ≤ maxLen) :
    Calls Try.prog 49 #[.slice a L.length cap, .func (.func 50) #[] #[]] w fun e w' => e = .returned (.bool (ascB L)) ∧ Below w.heap.size w w' := by
  unfold maxLen at hm
  go_enter Try.func49, Try.ntmps49
  go_wp2_with fail
  go_loopw [5] (fun i wr => ∃ k : Nat, k ≤ L.length ∧ i = .int .i64 ((k : Int) + 1) ∧ Hid ((∀ i c d, i < k → L[i]? = some c → L[i + 1]? = some d → lessE c d = true) ∧ Below w.heap.size w wr)) (fun i _ => L.length - (intOf i).toNat)
  case atStart => exact ⟨0, Nat.zero_le _, rfl, ⟨fun i c d hi => absurd hi (Nat.not_lt_zero _), Below.refl _ _⟩⟩
  case round =>
    obtain ⟨k, hk, rfl, hH⟩ := hrel
    by_cases hlt : k + 1 < L.length
    · have hlj : k < L.length := by omega
      obtain ⟨b, o, hab, hbl, hr⟩ := (ha.keep hH.out.2).at hlt
      obtain ⟨b', o', hab', -, hr'⟩ := (ha.keep hH.out.2).at hlj
      rw [hab] at hab'
      simp only [Option.some.injEq, Addr.mk.injEq] at hab'
      obtain ⟨rfl, rfl, _⟩ := hab'
      have hc1 := List.getElem?_eq_getElem hlj
      have hc2 := List.getElem?_eq_getElem hlt
      revert hr hr' hc1 hc2
      generalize L[k] = c
      generalize L[k + 1] = d
      intro hr hr' hc1 hc2
      have hix : ∀ wx, (Instr.indexAt 25 (.slice a L.length cap) (.int .i64 k)).run Try.prog wx = .ok (.pointer (some ⟨b, o + k * 4, none⟩)) wx := fun wx => by
        rw [hab]; exact run_ix4 _ _ _ _ _ _ _ wx hlj Try.underlying25 (Try.sizeOf38 wx)
      obtain ⟨q, hq⟩ : ∃ q, q = (k + 1) * 4 := ⟨_, rfl⟩
      have hiy : ∀ wx, (Instr.indexAt 25 (.slice a L.length cap) (.int .i64 ((k : Int) + 1))).run Try.prog wx = .ok (.pointer (some ⟨b, o + q, none⟩)) wx := fun wx => by
        rw [hab, hq]; exact run_ix4 _ _ _ _ _ (k + 1) _ wx hlt Try.underlying25 (Try.sizeOf38 wx)
      rw [← hq] at hr
      have hT : TwoEnts w b (o + k * 4) b (o + q) c d wr := ⟨cells4_of hr', cells4_of hr, hbl, hbl, hH.out.2⟩
      have hC : Hid (L[k]? = some c ∧ L[k + 1]? = some d) := ⟨hc1, hc2⟩
      have hlti : (k : Int) + 1 < L.length := by omega
      have hwk : IntKind.i64.wrap (k : Int) = (k : Int) := by
        simp [IntKind.wrap, IntKind.bits, IntKind.signed]
        omega
      clear hab hr hr' ha hbl hc1 hc2 hq
      go_wp2_with fail
      go_region_held3 (fun W => TwoEnts w b (o + k * 4) b (o + q) c d W) (first | assumption | exact twoe_drew (by assumption))
        (first
          | (go_at_call 50; refine (compare_entries _ _ _).mono ?_; rintro e w' ⟨rfl, hq⟩; have hN := twoe_next (by assumption) hq; clear hq))
      have hZ := ‹TwoEnts w b (o + k * 4) b (o + q) c d _›
      have hP : Hid (Below w.heap.size w _) := hZ.2.2.2.2
      clear hZ hT
      cases hs : lessE c d
      · have hE : Hid (lessE c d = false) := hs
        have hn : (0 : Int) ≤ cmpE c d := by
          have := cmpE_lt c d
          rw [hs, decide_eq_false_iff_not] at this
          omega
        go_wp2_with fail
        go_ret
        exact ⟨ret_bool (asc_bad hC.out.1 hC.out.2 hE.out).symm, hP.out⟩
      · have hE : Hid (lessE c d = true) := hs
        have hn : ¬ (0 : Int) ≤ cmpE c d := by
          have := cmpE_lt c d
          rw [hs, decide_eq_true_iff] at this
          omega
        go_wp2_with fail
        go_roundw
        case rel =>
          refine ⟨k + 1, by omega, by go_num, ⟨fun i x y hi hx hy => ?_, hP.out⟩⟩
          by_cases hik : i = k
          · subst hik
            rw [hC.out.1] at hx
            rw [hC.out.2] at hy
            cases hx; cases hy
            exact hE.out
          · exact hH.out.1 i x y (by omega) hx hy
        case measure => simp [intOf]; omega
    · have hlti : ¬ (k : Int) + 1 < L.length := by omega
      go_wp2_with fail
      go_ret
      exact ⟨ret_bool ((ascB_iff L).2 fun i x y hx hy => hH.out.1 i x y (by have := (List.getElem?_eq_some_iff.1 hy).1; omega) hx hy).symm, hH.out.2⟩

end Go.Proofs.Ytobblnlefhkanaa
