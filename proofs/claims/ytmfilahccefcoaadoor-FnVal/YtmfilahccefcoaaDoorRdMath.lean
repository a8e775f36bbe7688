/- Plain facts on decimals and on texts between quotes: no program in them. -/
import Derived.Lib.ItoaNum
import Derived.Lib.Strings
namespace Go.Proofs.YtmfilahccefcoaaDoor

def dig (c : UInt8) : Bool := decide (48 ≤ c.toNat) && decide (c.toNat ≤ 57)

/-- impl's scan: the number of the digits behind a, refused above 999. -/
def scan : List UInt8 → Nat → Option Nat
  | [], a => some a
  | c :: r, a => if dig c then (if 999 < a * 10 + (c.toNat - 48) then none else scan r (a * 10 + (c.toNat - 48))) else none
/-- The specification's scan. -/
def numScan : List UInt8 → Nat → Option Nat
  | [], a => some a
  | c :: r, a => if dig c then numScan r (a * 10 + (c.toNat - 48)) else none

theorem scan_le : ∀ (l : List UInt8) (a b : Nat), a ≤ 999 → scan l a = some b → b ≤ 999
  | [], a, b, ha, h => by simp [scan] at h; omega
  | c :: r, a, b, ha, h => by
    unfold scan at h
    split at h
    · split at h
      · cases h
      · exact scan_le r _ b (by omega) h
    · cases h

def readNum (t : List UInt8) : Option Int :=
  match scan (Lib.trimPrefix t [45]) 0 with
  | none => none
  | some a => if Lib.itoa (if Lib.hasPrefix t [45] then -(a : Int) else a) = t then some (if Lib.hasPrefix t [45] then -(a : Int) else a) else none

theorem readNum_some {t : List UInt8} {n : Int} (h : readNum t = some n) : Lib.itoa n = t ∧ -999 ≤ n ∧ n ≤ 999 := by
  unfold readNum at h
  cases ha : scan (Lib.trimPrefix t [45]) 0 with
  | none => rw [ha] at h; cases h
  | some a =>
    have hle := scan_le _ 0 a (by omega) ha
    rw [ha] at h
    have hb : ∀ m : Int, -999 ≤ m → m ≤ 999 → (if Lib.itoa m = t then some m else none) = some n → Lib.itoa n = t ∧ -999 ≤ n ∧ n ≤ 999 := by
      intro m h0 h1 hm
      by_cases he : Lib.itoa m = t
      · rw [if_pos he] at hm
        have hn := Option.some.inj hm
        subst hn
        exact ⟨he, h0, h1⟩
      · rw [if_neg he] at hm; cases hm
    cases hp : Lib.hasPrefix t [45]
    · rw [hp] at h; exact hb _ (by simp <;> omega) (by simp <;> omega) h
    · rw [hp] at h; exact hb _ (by simp <;> omega) (by simp <;> omega) h

/-- The numeral of u below 1000, written out. -/
def decL (u : Nat) : List UInt8 :=
  if u < 10 then [UInt8.ofNat (48 + u)] else if u < 100 then [UInt8.ofNat (48 + u / 10), UInt8.ofNat (48 + u % 10)] else [UInt8.ofNat (48 + u / 10 / 10), UInt8.ofNat (48 + u / 10 % 10), UInt8.ofNat (48 + u % 10)]

theorem dec_small (u : Nat) (h : u < 10) : Lib.decDigits u = [UInt8.ofNat (48 + u)] := by
  rw [Lib.decDigits]; simp [h]
theorem dec_step (u : Nat) (h : ¬ u < 10) : Lib.decDigits u = Lib.decDigits (u / 10) ++ [UInt8.ofNat (48 + u % 10)] := by
  rw [Lib.decDigits]; simp [h]
theorem dec_decL (u : Nat) (h : u < 1000) : Lib.decDigits u = decL u := by
  unfold decL
  by_cases h1 : u < 10
  · rw [if_pos h1, dec_small u h1]
  · rw [if_neg h1, dec_step u h1]
    by_cases h2 : u < 100
    · rw [if_pos h2, dec_small _ (by omega)]; rfl
    · rw [if_neg h2, dec_step (u / 10) (by omega), dec_small _ (by omega)]; rfl

/-- The specification's reading behind the sign: the number, and whether there is one. -/
def numS (neg : Bool) (l : List UInt8) : Int × Bool :=
  if l.length = 0 ∨ 17 < l.length ∨ (l.head? = some 48 ∧ (1 < l.length ∨ neg = true)) then (0, false) else match numScan l 0 with
    | none => (0, false)
    | some a => (if neg then -(a : Int) else (a : Int), true)
def numL (t : List UInt8) : Int × Bool := if t.head? = some 45 then numS true t.tail else numS false t

def posOk (u : Nat) : Bool := numL (decL u) == ((u : Int), true) && scan (decL u) 0 == some u && !(Lib.hasPrefix (decL u) [45]) && Lib.trimPrefix (decL u) [45] == decL u
def negOk (u : Nat) : Bool := numL (45 :: decL u) == (-(u : Int), true) && Lib.trimPrefix (45 :: decL u) [45] == decL u && Lib.hasPrefix (45 :: decL u) [45]

theorem all_pos : (List.range 1000).all posOk = true := by decide +kernel
theorem all_neg : (List.range 999).all (fun u => negOk (u + 1)) = true := by decide +kernel

theorem posOk_of {u : Nat} (h : u < 1000) : posOk u = true := List.all_eq_true.1 all_pos u (List.mem_range.2 h)
theorem negOk_of {u : Nat} (h0 : 0 < u) (h : u < 1000) : negOk u = true := by
  have := List.all_eq_true.1 all_neg (u - 1) (List.mem_range.2 (by omega))
  rwa [show u - 1 + 1 = u by omega] at this

theorem itoa_pos {n : Int} (h0 : 0 ≤ n) (h1 : n ≤ 999) : Lib.itoa n = decL n.toNat := by
  unfold Lib.itoa; rw [if_neg (by omega), dec_decL _ (by omega)]
theorem itoa_neg {n : Int} (h0 : n < 0) (h1 : -999 ≤ n) : Lib.itoa n = 45 :: decL n.natAbs := by
  unfold Lib.itoa; rw [if_pos h0, dec_decL _ (by omega)]

theorem numL_itoa {n : Int} (h0 : -999 ≤ n) (h1 : n ≤ 999) : numL (Lib.itoa n) = (n, true) := by
  by_cases h : n < 0
  · have hk := negOk_of (u := n.natAbs) (by omega) (by omega)
    simp only [negOk, Bool.and_eq_true, beq_iff_eq] at hk
    rw [itoa_neg h h0, hk.1.1]
    have : -(n.natAbs : Int) = n := by omega
    rw [this]
  · have hk := posOk_of (u := n.toNat) (by omega)
    simp only [posOk, Bool.and_eq_true, beq_iff_eq] at hk
    rw [itoa_pos (by omega) h1, hk.1.1.1]
    have : (n.toNat : Int) = n := by omega
    rw [this]

theorem readNum_itoa {n : Int} (h0 : -999 ≤ n) (h1 : n ≤ 999) : readNum (Lib.itoa n) = some n := by
  by_cases h : n < 0
  · have hk := negOk_of (u := n.natAbs) (by omega) (by omega)
    have hp := posOk_of (u := n.natAbs) (by omega)
    simp only [negOk, Bool.and_eq_true, beq_iff_eq] at hk
    simp only [posOk, Bool.and_eq_true, beq_iff_eq] at hp
    have e := itoa_neg h h0
    have hn : -(n.natAbs : Int) = n := by omega
    unfold readNum
    rw [e, hk.1.2, hp.1.1.2]
    simp only [hk.2, if_true, hn, e]
  · have hp := posOk_of (u := n.toNat) (by omega)
    simp only [posOk, Bool.and_eq_true, beq_iff_eq, Bool.not_eq_true'] at hp
    have e := itoa_pos (by omega) h1
    have hn : (n.toNat : Int) = n := by omega
    unfold readNum
    rw [e, hp.2, hp.1.1.2]
    simp only [hp.1.2, Bool.false_eq_true, if_false, hn, e, if_true]

/-- What both find is one. -/
theorem readNum_iff {t : List UInt8} {n : Int} : readNum t = some n ↔ (Lib.itoa n = t ∧ -999 ≤ n ∧ n ≤ 999) :=
  ⟨readNum_some, fun ⟨e, a, b⟩ => by rw [← e]; exact readNum_itoa a b⟩
theorem numL_of_readNum {t : List UInt8} {n : Int} (h : readNum t = some n) : numL t = (n, true) := by
  obtain ⟨e, a, b⟩ := readNum_some h
  rw [← e]; exact numL_itoa a b

end Go.Proofs.YtmfilahccefcoaaDoor
