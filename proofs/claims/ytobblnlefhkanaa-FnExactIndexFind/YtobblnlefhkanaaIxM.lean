/- The order of entries, and what is right of them. -/
import Derived.Test.YtobblnlefhkanaaIxA
import Derived.Test.YtobblnlefhkanaaIxV
import Derived.Sort.Walk0
namespace Go.Proofs.Ytobblnlefhkanaa
open Go.RowKit

/-- One ahead of, at, or behind the other: below 0, 0, or above. -/
def cmpE (a b : AEnt) : Int := if cmpV a.k a.n a.s b.k b.n b.s = 0 then cmpI a.id b.id else cmpV a.k a.n a.s b.k b.n b.s
def eqV (a b : AEnt) : Bool := a.k == b.k && (a.n == b.n && a.s.toList == b.s.toList)
def lessE (a b : AEnt) : Bool := if eqV a b then decide (a.id < b.id) else lessV a.k a.n a.s b.k b.n b.s
def eqE (a b : AEnt) : Bool := eqV a b && a.id == b.id
def AEnt.ok (e : AEnt) : Bool := valOk e.k e.n e.s && (decide (1 ≤ e.id) && decide (e.id ≤ 60))

theorem bl_irr (a : List UInt8) : Op.bytesLess a a = false := by
  rw [bytesLess_eq, decide_eq_false_iff_not]; exact List.lt_irrefl a
theorem bl_asym (a b : List UInt8) (h : Op.bytesLess a b = true) : Op.bytesLess b a = false := by
  rw [bytesLess_eq, decide_eq_true_eq] at h
  rw [bytesLess_eq, decide_eq_false_iff_not]; exact List.lt_asymm h
theorem bl_trans (a b c : List UInt8) (h : Op.bytesLess a b = true) (k : Op.bytesLess b c = true) : Op.bytesLess a c = true := by
  rw [bytesLess_eq, decide_eq_true_eq] at h k ⊢
  exact List.lt_trans h k
theorem bl_tri (a b : List UInt8) (h : Op.bytesLess a b = false) (k : Op.bytesLess b a = false) : a = b := by
  rw [bytesLess_eq, decide_eq_false_iff_not] at h k
  exact List.le_antisymm (List.not_lt.1 k) (List.not_lt.1 h)

theorem eqV_iff (a b : AEnt) : eqV a b = true ↔ a.k = b.k ∧ a.n = b.n ∧ a.s.toList = b.s.toList := by simp [eqV]
theorem toList_inj {s t : ByteArray} (h : s.toList = t.toList) : s = t := by
  rw [Lib.toList_data, Lib.toList_data] at h
  cases s; cases t
  simp at h
  rw [h]
theorem eqV_ext {a b : AEnt} (h : eqV a b = true) : a.k = b.k ∧ a.n = b.n ∧ a.s = b.s := by
  obtain ⟨h1, h2, h3⟩ := (eqV_iff a b).1 h
  exact ⟨h1, h2, toList_inj h3⟩
theorem eqE_ext {a b : AEnt} (h : eqE a b = true) : a = b := by
  simp only [eqE, Bool.and_eq_true, beq_iff_eq] at h
  obtain ⟨h1, h2, h3⟩ := eqV_ext h.1
  cases a; cases b
  simp_all
theorem eqV_refl (a : AEnt) : eqV a a = true := by simp [eqV]
theorem eqE_refl (a : AEnt) : eqE a a = true := by simp [eqE, eqV]
theorem eqE_iff (a b : AEnt) : eqE a b = true ↔ a = b := ⟨eqE_ext, fun h => h ▸ eqE_refl a⟩

/-- The four are held against each other one by one. -/
theorem lessE_eq (a b : AEnt) : lessE a b = (if a.k = b.k then (if a.n = b.n then (if a.s.toList = b.s.toList then decide (a.id < b.id) else bad a.s b.s) else decide (a.n < b.n)) else decide (a.k < b.k)) := by
  unfold lessE
  rw [less_eq]
  by_cases h1 : a.k = b.k
  · by_cases h2 : a.n = b.n
    · by_cases h3 : a.s.toList = b.s.toList
      · simp [eqV, h1, h2, h3]
      · simp [eqV, h1, h2, h3]
    · simp [eqV, h1, h2]
  · simp [eqV, h1]

theorem lessE_irr (a : AEnt) : lessE a a = false := by rw [lessE_eq]; simp
def lx (k1 n1 : Int) (l1 : List UInt8) (i1 k2 n2 : Int) (l2 : List UInt8) (i2 : Int) : Bool :=
  if k1 = k2 then (if n1 = n2 then (if l1 = l2 then decide (i1 < i2) else Op.bytesLess l1 l2) else decide (n1 < n2)) else decide (k1 < k2)
theorem lx_trans (k1 n1 : Int) (l1 : List UInt8) (i1 k2 n2 : Int) (l2 : List UInt8) (i2 k3 n3 : Int) (l3 : List UInt8) (i3 : Int) (h : lx k1 n1 l1 i1 k2 n2 l2 i2 = true) (k : lx k2 n2 l2 i2 k3 n3 l3 i3 = true) : lx k1 n1 l1 i1 k3 n3 l3 i3 = true := by
  unfold lx at *
  by_cases p : k1 = k2
  · subst p
    by_cases q : k1 = k3
    · subst q
      by_cases r : n1 = n2
      · subst r
        by_cases t : n1 = n3
        · subst t
          by_cases x : l1 = l2
          · subst x
            by_cases y : l1 = l3
            · subst y
              simp only [if_true, decide_eq_true_eq] at *
              omega
            · simp only [if_true, if_neg y] at *; exact k
          · by_cases y : l2 = l3
            · subst y; simp only [if_true, if_neg x] at *; exact h
            · simp only [if_true, if_neg x, if_neg y] at *
              have hk := bl_trans _ _ _ h k
              have : ¬ l1 = l3 := fun e => by rw [e, bl_irr] at hk; cases hk
              simp only [if_neg this]; exact hk
        · simp only [if_true, if_neg t] at *; exact k
      · by_cases t : n2 = n3
        · subst t; simp only [if_true, if_neg r] at *; exact h
        · simp only [if_true, if_neg r, if_neg t, decide_eq_true_eq] at *
          rw [if_neg (by omega), decide_eq_true_eq]; omega
    · simp only [if_true, if_neg q] at *; exact k
  · by_cases q : k2 = k3
    · subst q; simp only [if_neg p] at *; exact h
    · simp only [if_neg p, if_neg q, decide_eq_true_eq] at *
      rw [if_neg (by omega), decide_eq_true_eq]; omega
theorem lessE_trans (a b c : AEnt) (h : lessE a b = true) (k : lessE b c = true) : lessE a c = true := by
  rw [lessE_eq] at *
  exact lx_trans _ _ _ _ _ _ _ _ _ _ _ _ h k
theorem lessE_asym (a b : AEnt) (h : lessE a b = true) : lessE b a = false := by
  cases k : lessE b a
  · rfl
  · have := lessE_trans a b a h k
    rw [lessE_irr] at this
    cases this
theorem lessE_tri (a b : AEnt) (h : lessE a b = false) (k : lessE b a = false) : a = b := by
  rw [lessE_eq] at h k
  unfold bad at h k
  have h1 : a.k = b.k := by
    by_cases p : a.k = b.k
    · exact p
    · rw [if_neg p, decide_eq_false_iff_not] at h
      rw [if_neg (fun e => p e.symm), decide_eq_false_iff_not] at k
      omega
  rw [h1] at h k
  simp only [if_true] at h k
  have h2 : a.n = b.n := by
    by_cases p : a.n = b.n
    · exact p
    · rw [if_neg p, decide_eq_false_iff_not] at h
      rw [if_neg (fun e => p e.symm), decide_eq_false_iff_not] at k
      omega
  rw [h2] at h k
  simp only [if_true] at h k
  have h3 : a.s.toList = b.s.toList := by
    by_cases p : a.s.toList = b.s.toList
    · exact p
    · rw [if_neg p] at h
      rw [if_neg (fun e => p e.symm)] at k
      exact bl_tri _ _ h k
  rw [h3] at h k
  simp only [if_true, decide_eq_false_iff_not] at h k
  have h4 : a.id = b.id := by omega
  exact eqE_ext (by simp [eqE, eqV, h1, h2, h3, h4])

theorem cmpV_eq (k1 n1 : Int) (s1 : ByteArray) (k2 n2 : Int) (s2 : ByteArray) :
    cmpV k1 n1 s1 k2 n2 s2 = if k1 = k2 ∧ n1 = n2 ∧ s1.toList = s2.toList then 0 else if lessV k1 n1 s1 k2 n2 s2 then -1 else 1 := by
  unfold lessV
  have h : cmpV k1 n1 s1 k2 n2 s2 = 0 ∨ cmpV k1 n1 s1 k2 n2 s2 = 1 ∨ cmpV k1 n1 s1 k2 n2 s2 = -1 := by
    unfold cmpV orI cmpI cmpS
    repeat' split
    all_goals omega
  have h0 : cmpV k1 n1 s1 k2 n2 s2 = 0 ↔ k1 = k2 ∧ n1 = n2 ∧ s1.toList = s2.toList := by
    unfold cmpV orI cmpI cmpS
    by_cases p : k1 = k2
    · subst p
      by_cases q : n1 = n2
      · subst q
        by_cases r : s1.toList = s2.toList
        · simp [r, bl_irr]
        · cases x : Op.bytesLess s1.toList s2.toList <;> simp [r]
      · by_cases x : n1 < n2
        · simp [q, x]
        · have : n2 < n1 := by omega
          simp [q, x, this]
    · by_cases x : k1 < k2
      · simp [p, x]
      · have : k2 < k1 := by omega
        simp [p, x, this]
  rcases h with h | h | h
  · rw [if_pos (h0.1 h), h]
  · rw [if_neg (fun e => by rw [h0.2 e] at h; omega), h]; rfl
  · rw [if_neg (fun e => by rw [h0.2 e] at h; omega), h]; rfl
theorem cmpE_eq (a b : AEnt) : cmpE a b = if lessE a b then -1 else if eqE a b then 0 else 1 := by
  unfold cmpE lessE eqE
  rw [cmpV_eq]
  by_cases h : eqV a b = true
  · rw [if_pos ((eqV_iff a b).1 h)]
    simp only [h, if_true, Bool.true_and, cmpI]
    by_cases x : a.id < b.id
    · simp [x]
    · by_cases y : a.id = b.id
      · simp [y]
      · have : b.id < a.id := by omega
        simp [x, y, this]
  · have h' : ¬ (a.k = b.k ∧ a.n = b.n ∧ a.s.toList = b.s.toList) := fun e => h ((eqV_iff a b).2 e)
    simp only [Bool.not_eq_true] at h
    rw [if_neg h']
    simp only [h]
    cases lessV a.k a.n a.s b.k b.n b.s <;> simp
theorem cmpE_lt (a b : AEnt) : decide (cmpE a b < 0) = lessE a b := by
  rw [cmpE_eq]
  cases lessE a b
  · cases eqE a b <;> rfl
  · rfl
theorem cmpE_zero (a b : AEnt) : (cmpE a b == 0) = eqE a b := by
  rw [cmpE_eq]
  cases h : lessE a b
  · cases eqE a b <;> rfl
  · cases k : eqE a b
    · rfl
    · rw [eqE_ext k, lessE_irr] at h; cases h

/-- Each stands ahead of the next. -/
def Asc (L : List AEnt) : Prop := ∀ i c d, L[i]? = some c → L[i + 1]? = some d → lessE c d = true
def ascB (L : List AEnt) : Bool := (List.range L.length).all fun i => match L[i]?, L[i + 1]? with | some c, some d => lessE c d | _, _ => true
theorem ascB_iff (L : List AEnt) : ascB L = true ↔ Asc L := by
  unfold ascB Asc
  rw [List.all_eq_true]
  constructor
  · intro h i c d hc hd
    have := h i (List.mem_range.2 (List.getElem?_eq_some_iff.1 hc).1)
    simpa [hc, hd] using this
  · intro h i hi
    have hi := List.mem_range.1 hi
    rw [List.getElem?_eq_getElem hi]
    cases hd : L[i + 1]? with
    | none => rfl
    | some d => exact h i _ d (List.getElem?_eq_getElem hi) hd
theorem Asc.lt {L : List AEnt} (h : Asc L) {i j : Nat} {c d : AEnt} (hij : i < j) (hc : L[i]? = some c) (hd : L[j]? = some d) : lessE c d = true := by
  induction j generalizing d with
  | zero => omega
  | succ j ih =>
    have hj : j < L.length := by have := (List.getElem?_eq_some_iff.1 hd).1; omega
    have he := List.getElem?_eq_getElem hj
    by_cases hij' : i = j
    · subst hij'; exact h i c d hc hd
    · exact lessE_trans _ _ _ (ih (by omega) he) (h j _ d he hd)

def indexOk (L : List AEnt) : Bool := decide (L.length ≤ 16) && (L.all AEnt.ok && ascB L)

theorem all_ok {L : List AEnt} (h : ∀ i c, i < L.length → L[i]? = some c → c.ok = true) : L.all AEnt.ok = true := by
  rw [List.all_eq_true]
  intro c hc
  obtain ⟨i, hi, he⟩ := List.getElem_of_mem hc
  exact h i c hi (by rw [List.getElem?_eq_getElem hi, he])
theorem all_bad {L : List AEnt} {k : Nat} {c : AEnt} (hc : L[k]? = some c) (h : c.ok = false) : L.all AEnt.ok = false := by
  rw [List.all_eq_false]
  obtain ⟨hk, e⟩ := List.getElem?_eq_some_iff.1 hc
  exact ⟨c, e ▸ List.getElem_mem hk, by simp [h]⟩
theorem asc_bad {L : List AEnt} {k : Nat} {c d : AEnt} (hc : L[k]? = some c) (hd : L[k + 1]? = some d) (h : lessE c d = false) : ascB L = false := by
  cases k' : ascB L
  · rfl
  · have := (ascB_iff L).1 k' k c d hc hd
    rw [h] at this; cases this

end Go.Proofs.Ytobblnlefhkanaa
