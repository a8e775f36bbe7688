/- What is right of what is done: as the specification asks it, as the program asks it, and that the two are one. Over the seat's translation. -/
import Derived.Test.YtacindondkcaiaaGreatAcA0
import Derived.Test.YtacindondkcaiaaGreatShE1
namespace Go.Proofs.YtacindondkcaiaaGreat
open Go.RowKit

def ASet.ok (c : ASet) : Bool := nameOk c.nm && valOk c.k c.n c.s
def setsOk (L : List ASet) : Bool := L.all ASet.ok && decide (L.length ≤ 5)
def colsOk (L : List ACol) : Bool := L.all ACol.ok && (decide (1 ≤ L.length) && decide (L.length ≤ 5))
def linkOk (l : ALnk) : Bool := nameOk l.fr && (nameOk l.co && (nameOk l.tt && (decide (1 ≤ l.hw) && decide (l.hw ≤ 3))))
def idOk (n : Int) : Bool := decide (0 ≤ n) && decide (n ≤ 60)
def eqX (c d : AChg) : Bool := c.kd == d.kd && (c.nm.toList == d.nm.toList && (c.nw.toList == d.nw.toList && eqC c.c d.c))
def eqK (c d : ALnk) : Bool := c.fr.toList == d.fr.toList && (c.co.toList == d.co.toList && (c.tt.toList == d.tt.toList && c.hw == d.hw))
def eqS (c d : ASet) : Bool := c.nm.toList == d.nm.toList && (c.k == d.k && (c.n == d.n && c.s.toList == d.s.toList))

/-- A column of a kind and of nothing else. -/
abbrev colK (k : Int) : ACol := ⟨⟨#[]⟩, k, false, false, 0, 0, ⟨#[]⟩⟩
abbrev chg0 : AChg := ⟨0, ⟨#[]⟩, ⟨#[]⟩, colK 0⟩
abbrev lnk0 : ALnk := ⟨⟨#[]⟩, ⟨#[]⟩, ⟨#[]⟩, 0⟩

def sameToC (L M : List ACol) (k : Nat) : Bool := (List.range k).all fun i => match L[i]?, M[i]? with | some c, some d => eqC c d | _, _ => false
def colsSame (L M : List ACol) : Bool := decide (L.length = M.length) && sameToC L M L.length
def sameToS (L M : List ASet) (k : Nat) : Bool := (List.range k).all fun i => match L[i]?, M[i]? with | some c, some d => eqS c d | _, _ => false
def setsSame (L M : List ASet) : Bool := decide (L.length = M.length) && sameToS L M L.length

/-- A change that can be read, as the specification asks it. -/
def specChg (g : AChg) : Bool :=
  if g.kd = 1 then g.c.ok && (g.nm.toList == [] && g.nw.toList == [])
  else if g.kd = 2 then nameOk g.nm && (g.nw.toList == [] && eqC g.c (colK 0))
  else if g.kd = 3 then nameOk g.nm && (nameOk g.nw && eqC g.c (colK 0))
  else if g.kd = 4 then nameOk g.nm && (g.nw.toList == [] && (eqC g.c (colK 1) || eqC g.c (colK 2)))
  else false
/-- Nothing that its kind has not. -/
def specOnly (x : AAct) : Bool :=
  ((x.kd == 2 || eqK x.l lnk0) && (!(x.kd == 2) || x.nm.toList == [])) && (((x.kd == 6 || eqX x.g chg0) && (x.kd == 1 || decide (x.cols.length = 0))) && ((x.kd == 3 || (x.kd == 4 || decide (x.sets.length = 0))) && (x.kd == 4 || (x.kd == 5 || x.id == 0))))
def specKind (x : AAct) : Bool :=
  if x.kd = 1 then colsOk x.cols else if x.kd = 2 then linkOk x.l else if x.kd = 3 then setsOk x.sets else if x.kd = 4 then setsOk x.sets else if x.kd = 5 then true else if x.kd = 6 then specChg x.g else false
def specAct (x : AAct) : Bool := specOnly x && ((x.kd == 2 || nameOk x.nm) && (idOk x.id && specKind x))

def kindOk (k : Int) : Bool := k == 1 || k == 2
def howOk (k : Int) : Bool := k == 1 || (k == 2 || k == 3)
/-- What a deed asks of itself. -/
def implDeed (x : AAct) : Bool :=
  if x.kd = 1 then nameOk x.nm && (decide (1 ≤ x.cols.length) && (decide (x.cols.length ≤ 5) && x.cols.all ACol.ok))
  else if x.kd = 2 then nameOk x.l.fr && (nameOk x.l.co && (nameOk x.l.tt && howOk x.l.hw))
  else if x.kd = 3 then nameOk x.nm && (decide (x.sets.length ≤ 5) && x.sets.all ASet.ok)
  else if x.kd = 4 then nameOk x.nm && (idOk x.id && (decide (x.sets.length ≤ 5) && x.sets.all ASet.ok))
  else if x.kd = 5 then nameOk x.nm && idOk x.id
  else if x.kd = 6 then
    if x.g.kd = 1 then nameOk x.nm && x.g.c.ok
    else if x.g.kd = 2 then nameOk x.nm && nameOk x.g.nm
    else if x.g.kd = 3 then nameOk x.nm && (nameOk x.g.nm && nameOk x.g.nw)
    else if x.g.kd = 4 then nameOk x.nm && (nameOk x.g.nm && kindOk x.g.c.kd)
    else false
  else false
/-- What a deed keeps of what is done. -/
def deedAct (x : AAct) : AAct :=
  if x.kd = 1 then ⟨1, x.nm, 0, [], x.cols, chg0, lnk0⟩
  else if x.kd = 2 then ⟨2, ⟨#[]⟩, 0, [], [], chg0, x.l⟩
  else if x.kd = 3 then ⟨3, x.nm, 0, x.sets, [], chg0, lnk0⟩
  else if x.kd = 4 then ⟨4, x.nm, x.id, x.sets, [], chg0, lnk0⟩
  else if x.kd = 5 then ⟨5, x.nm, x.id, [], [], chg0, lnk0⟩
  else if x.g.kd = 1 then ⟨6, x.nm, 0, [], [], ⟨1, ⟨#[]⟩, ⟨#[]⟩, x.g.c⟩, lnk0⟩
  else if x.g.kd = 2 then ⟨6, x.nm, 0, [], [], ⟨2, x.g.nm, ⟨#[]⟩, colK 0⟩, lnk0⟩
  else if x.g.kd = 3 then ⟨6, x.nm, 0, [], [], ⟨3, x.g.nm, x.g.nw, colK 0⟩, lnk0⟩
  else ⟨6, x.nm, 0, [], [], ⟨4, x.g.nm, ⟨#[]⟩, colK x.g.c.kd⟩, lnk0⟩
def actSame (y x : AAct) : Bool := y.kd == x.kd && (y.nm.toList == x.nm.toList && (y.id == x.id && (setsSame y.sets x.sets && (colsSame y.cols x.cols && (eqX y.g x.g && eqK y.l x.l)))))
def implAct (x : AAct) : Bool := implDeed x && actSame (deedAct x) x

theorem eqC_refl (c : ACol) : eqC c c = true := by simp [eqC]
theorem eqX_refl (c : AChg) : eqX c c = true := by simp [eqX, eqC]
theorem eqK_refl (c : ALnk) : eqK c c = true := by simp [eqK]
theorem eqS_refl (c : ASet) : eqS c c = true := by simp [eqS]
theorem colsSame_refl (L : List ACol) : colsSame L L = true := by
  simp only [colsSame, sameToC, decide_true, Bool.true_and, List.all_eq_true, List.mem_range]
  intro i hi
  simp [List.getElem?_eq_getElem hi, eqC_refl]
theorem setsSame_refl (L : List ASet) : setsSame L L = true := by
  simp only [setsSame, sameToS, decide_true, Bool.true_and, List.all_eq_true, List.mem_range]
  intro i hi
  simp [List.getElem?_eq_getElem hi, eqS_refl]
theorem colsSame_nil (L : List ACol) : colsSame [] L = decide (L.length = 0) := by
  simp only [colsSame, sameToC, List.length_nil, List.range_zero, List.all_nil, Bool.and_true]
  rw [Bool.eq_iff_iff]
  simp only [decide_eq_true_eq]
  omega
theorem setsSame_nil (L : List ASet) : setsSame [] L = decide (L.length = 0) := by
  simp only [setsSame, sameToS, List.length_nil, List.range_zero, List.all_nil, Bool.and_true]
  rw [Bool.eq_iff_iff]
  simp only [decide_eq_true_eq]
  omega
theorem eqC_comm (c d : ACol) : eqC c d = eqC d c := by
  rw [Bool.eq_iff_iff]
  simp only [eqC, Bool.and_eq_true, beq_iff_eq]
  constructor <;> (rintro ⟨h1, h2, h3, h4, h5, h6, h7⟩; exact ⟨h1.symm, h2.symm, h3.symm, h4.symm, h5.symm, h6.symm, h7.symm⟩)
theorem eqX_comm (c d : AChg) : eqX c d = eqX d c := by
  rw [Bool.eq_iff_iff]
  simp only [eqX, Bool.and_eq_true, beq_iff_eq, eqC_comm c.c d.c]
  constructor <;> (rintro ⟨h1, h2, h3, h4⟩; exact ⟨h1.symm, h2.symm, h3.symm, h4⟩)
theorem eqK_comm (c d : ALnk) : eqK c d = eqK d c := by
  rw [Bool.eq_iff_iff]
  simp only [eqK, Bool.and_eq_true, beq_iff_eq]
  constructor <;> (rintro ⟨h1, h2, h3, h4⟩; exact ⟨h1.symm, h2.symm, h3.symm, h4.symm⟩)
theorem toList_empty : (⟨#[]⟩ : ByteArray).toList = [] := by simp [ByteArray.toList_eq]
theorem how_link (l : ALnk) : howOk l.hw = (decide (1 ≤ l.hw) && decide (l.hw ≤ 3)) := by
  rw [Bool.eq_iff_iff]
  simp only [howOk, Bool.or_eq_true, Bool.and_eq_true, beq_iff_eq, decide_eq_true_eq]
  omega
theorem idOk_nought : idOk 0 = true := by simp [idOk]
theorem beq_comm_int (a b : Int) : (a == b) = (b == a) := by
  rw [Bool.eq_iff_iff]
  simp only [beq_iff_eq]
  exact eq_comm
theorem empty_comm (a : List UInt8) : (([] : List UInt8) == a) = (a == []) := by
  rw [Bool.eq_iff_iff]
  simp only [beq_iff_eq]
  exact eq_comm
/-- A column that has a kind alone, its kind being one of the two. -/
theorem kind_col (c : ACol) : (kindOk c.kd && eqC (colK c.kd) c) = (eqC c (colK 1) || eqC c (colK 2)) := by
  rw [Bool.eq_iff_iff]
  simp only [kindOk, eqC, Bool.and_eq_true, Bool.or_eq_true, beq_iff_eq]
  constructor
  · rintro ⟨h | h, h1, h2, h3, h4, h5, h6, h7⟩
    · exact Or.inl ⟨h1.symm, h, h3.symm, h4.symm, h5.symm, h6.symm, h7.symm⟩
    · exact Or.inr ⟨h1.symm, h, h3.symm, h4.symm, h5.symm, h6.symm, h7.symm⟩
  · rintro (⟨h1, h2, h3, h4, h5, h6, h7⟩ | ⟨h1, h2, h3, h4, h5, h6, h7⟩)
    · exact ⟨Or.inl h2, h1.symm, trivial, h3.symm, h4.symm, h5.symm, h6.symm, h7.symm⟩
    · exact ⟨Or.inr h2, h1.symm, trivial, h3.symm, h4.symm, h5.symm, h6.symm, h7.symm⟩

set_option maxHeartbeats 4000000 in
/-- What the program asks is what the specification asks. -/
theorem impl_spec (x : AAct) : implAct x = specAct x := by
  have hid : (x.id == 0) = true → idOk x.id = true := fun h => by rw [beq_iff_eq.1 h]; exact idOk_nought
  have hh := how_link x.l
  have hk := kind_col x.g.c
  have e0 : ∀ y : ByteArray, ((⟨#[]⟩ : ByteArray).toList == y.toList) = (y.toList == []) := fun y => by rw [toList_empty, empty_comm]
  have ei : ((0 : Int) == x.id) = (x.id == 0) := beq_comm_int _ _
  unfold implAct specAct specOnly specKind implDeed deedAct
  by_cases h1 : x.kd = 1
  · simp only [h1, actSame, setsSame_nil, colsSame_refl, eqX_comm chg0, eqK_comm lnk0, ei, colsOk, if_true, beq_self_eq_true, Bool.true_and, Bool.true_or, Bool.and_true, Int.reduceBEq, Bool.false_or, Bool.not_false]
    revert hid
    generalize (x.id == 0) = a; generalize idOk x.id = b; generalize nameOk x.nm = c; generalize decide (1 ≤ x.cols.length) = d; generalize decide (x.cols.length ≤ 5) = e; generalize x.cols.all ACol.ok = f; generalize eqX x.g chg0 = g; generalize eqK x.l lnk0 = h; generalize decide (x.sets.length = 0) = i
    cases a <;> cases b <;> cases c <;> cases d <;> cases e <;> cases f <;> cases g <;> cases h <;> cases i <;> simp
  by_cases h2 : x.kd = 2
  · simp only [h2, actSame, setsSame_nil, colsSame_nil, eqX_comm chg0, eqK_refl, e0, ei, linkOk, hh, if_true, beq_self_eq_true, Bool.true_and, Bool.true_or, Bool.and_true, Int.reduceBEq, Bool.false_or, Bool.not_true, Int.reduceEq, if_false]
    revert hid
    generalize (x.id == 0) = a; generalize idOk x.id = b; generalize nameOk x.l.fr = c; generalize nameOk x.l.co = d; generalize nameOk x.l.tt = e; generalize (decide (1 ≤ x.l.hw) && decide (x.l.hw ≤ 3)) = f; generalize eqX x.g chg0 = g; generalize (x.nm.toList == []) = h; generalize decide (x.sets.length = 0) = i; generalize decide (x.cols.length = 0) = k
    cases a <;> cases b <;> cases c <;> cases d <;> cases e <;> cases f <;> cases g <;> cases h <;> cases i <;> cases k <;> simp
  by_cases h3 : x.kd = 3
  · simp only [h3, actSame, setsSame_refl, colsSame_nil, eqX_comm chg0, eqK_comm lnk0, ei, setsOk, if_true, beq_self_eq_true, Bool.true_and, Bool.true_or, Bool.and_true, Int.reduceBEq, Bool.false_or, Bool.not_false, Int.reduceEq, if_false]
    revert hid
    generalize (x.id == 0) = a; generalize idOk x.id = b; generalize nameOk x.nm = c; generalize decide (x.sets.length ≤ 5) = e; generalize x.sets.all ASet.ok = f; generalize eqX x.g chg0 = g; generalize eqK x.l lnk0 = h; generalize decide (x.cols.length = 0) = i
    cases a <;> cases b <;> cases c <;> cases e <;> cases f <;> cases g <;> cases h <;> cases i <;> simp
  by_cases h4 : x.kd = 4
  · simp only [h4, actSame, setsSame_refl, colsSame_nil, eqX_comm chg0, eqK_comm lnk0, setsOk, if_true, beq_self_eq_true, Bool.true_and, Bool.true_or, Bool.or_true, Bool.and_true, Int.reduceBEq, Bool.false_or, Bool.not_false, Int.reduceEq, if_false]
    generalize idOk x.id = b; generalize nameOk x.nm = c; generalize decide (x.sets.length ≤ 5) = e; generalize x.sets.all ASet.ok = f; generalize eqX x.g chg0 = g; generalize eqK x.l lnk0 = h; generalize decide (x.cols.length = 0) = i
    cases b <;> cases c <;> cases e <;> cases f <;> cases g <;> cases h <;> cases i <;> rfl
  by_cases h5 : x.kd = 5
  · simp only [h5, actSame, setsSame_nil, colsSame_nil, eqX_comm chg0, eqK_comm lnk0, if_true, beq_self_eq_true, Bool.true_and, Bool.true_or, Bool.or_true, Bool.and_true, Int.reduceBEq, Bool.false_or, Bool.not_false, Int.reduceEq, if_false]
    generalize idOk x.id = b; generalize nameOk x.nm = c; generalize decide (x.sets.length = 0) = e; generalize eqX x.g chg0 = g; generalize eqK x.l lnk0 = h; generalize decide (x.cols.length = 0) = i
    cases b <;> cases c <;> cases e <;> cases g <;> cases h <;> cases i <;> rfl
  by_cases h6 : x.kd = 6
  · unfold specChg
    by_cases g1 : x.g.kd = 1
    · simp only [h6, g1, actSame, eqX, eqC_refl, setsSame_nil, colsSame_nil, eqK_comm lnk0, e0, ei, if_true, beq_self_eq_true, Bool.true_and, Bool.true_or, Bool.and_true, Int.reduceBEq, Bool.false_or, Bool.not_false, Int.reduceEq, if_false]
      revert hid
      generalize (x.id == 0) = a; generalize idOk x.id = b; generalize nameOk x.nm = c; generalize decide (x.sets.length = 0) = e; generalize x.g.c.ok = g; generalize eqK x.l lnk0 = h; generalize decide (x.cols.length = 0) = i; generalize (x.g.nm.toList == []) = j; generalize (x.g.nw.toList == []) = k
      cases a <;> cases b <;> cases c <;> cases e <;> cases g <;> cases h <;> cases i <;> cases j <;> cases k <;> simp
    by_cases g2 : x.g.kd = 2
    · simp only [h6, g2, actSame, eqX, eqC_comm (colK 0), setsSame_nil, colsSame_nil, eqK_comm lnk0, e0, ei, if_true, beq_self_eq_true, Bool.true_and, Bool.true_or, Bool.and_true, Int.reduceBEq, Bool.false_or, Bool.not_false, Int.reduceEq, if_false]
      revert hid
      generalize (x.id == 0) = a; generalize idOk x.id = b; generalize nameOk x.nm = c; generalize decide (x.sets.length = 0) = e; generalize eqC x.g.c (colK 0) = g; generalize eqK x.l lnk0 = h; generalize decide (x.cols.length = 0) = i; generalize nameOk x.g.nm = j; generalize (x.g.nw.toList == []) = k
      cases a <;> cases b <;> cases c <;> cases e <;> cases g <;> cases h <;> cases i <;> cases j <;> cases k <;> simp
    by_cases g3 : x.g.kd = 3
    · simp only [h6, g3, actSame, eqX, eqC_comm (colK 0), setsSame_nil, colsSame_nil, eqK_comm lnk0, ei, if_true, beq_self_eq_true, Bool.true_and, Bool.true_or, Bool.and_true, Int.reduceBEq, Bool.false_or, Bool.not_false, Int.reduceEq, if_false]
      revert hid
      generalize (x.id == 0) = a; generalize idOk x.id = b; generalize nameOk x.nm = c; generalize decide (x.sets.length = 0) = e; generalize eqC x.g.c (colK 0) = g; generalize eqK x.l lnk0 = h; generalize decide (x.cols.length = 0) = i; generalize nameOk x.g.nm = j; generalize nameOk x.g.nw = k
      cases a <;> cases b <;> cases c <;> cases e <;> cases g <;> cases h <;> cases i <;> cases j <;> cases k <;> simp
    by_cases g4 : x.g.kd = 4
    · simp only [h6, g4, actSame, eqX, setsSame_nil, colsSame_nil, eqK_comm lnk0, e0, ei, ← hk, if_true, beq_self_eq_true, Bool.true_and, Bool.true_or, Bool.and_true, Int.reduceBEq, Bool.false_or, Bool.not_false, Int.reduceEq, if_false]
      revert hid
      generalize (x.id == 0) = a; generalize idOk x.id = b; generalize nameOk x.nm = c; generalize decide (x.sets.length = 0) = e; generalize eqC (colK x.g.c.kd) x.g.c = g; generalize eqK x.l lnk0 = h; generalize decide (x.cols.length = 0) = i; generalize nameOk x.g.nm = j; generalize (x.g.nw.toList == []) = k; generalize kindOk x.g.c.kd = l
      cases a <;> cases b <;> cases c <;> cases e <;> cases g <;> cases h <;> cases i <;> cases j <;> cases k <;> cases l <;> simp
    · simp [h6, g1, g2, g3, g4]
  · simp [h1, h2, h3, h4, h5, h6]

end Go.Proofs.YtacindondkcaiaaGreat
