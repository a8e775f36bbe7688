/- What is right of what is done: as the specification asks it, as the program asks it, and that the two are one. Over the seat's translation. -/
import Derived.Test.YtpcfebekkgfpjaaGreatDoorG02
import Derived.Test.YtpcfebekkgfpjaaGreatDoorG04
import Derived.Test.YtpcfebekkgfpjaaGreatDoorG03
namespace Go.Proofs.YtpcfebekkgfpjaaGreatDoor
open Go.RowKit

def ASet.ok (c : ASet) : Bool := nameOk c.nm && valOk c.k c.n c.s
def setsOk (L : List ASet) : Bool := L.all ASet.ok && decide (L.length ≤ 5)
def colsOk (L : List ACol) : Bool := L.all ACol.ok && (decide (1 ≤ L.length) && decide (L.length ≤ 5))
def linkOk (l : ALnk) : Bool := nameOk l.fr && (nameOk l.co && (nameOk l.tt && (decide (1 ≤ l.hw) && decide (l.hw ≤ 3))))
def idOk (n : Int) : Bool := decide (0 ≤ n) && decide (n ≤ 60)
def eqX (c d : AChg) : Bool := c.kd == d.kd && (c.nm.toList == d.nm.toList && (c.nw.toList == d.nw.toList && eqC c.c d.c))
def eqK (c d : ALnk) : Bool := c.fr.toList == d.fr.toList && (c.co.toList == d.co.toList && (c.tt.toList == d.tt.toList && c.hw == d.hw))
def eqS (c d : ASet) : Bool := c.nm.toList == d.nm.toList && (c.k == d.k && (c.n == d.n && c.s.toList == d.s.toList))

/-- A column of a kind and of nothing else. -/
abbrev colK (k : Int) : ACol := ⟨⟨#[]⟩, k, false, false, 0, 0, ⟨#[]⟩⟩
abbrev chg0 : AChg := ⟨0, ⟨#[]⟩, ⟨#[]⟩, colK 0⟩
abbrev lnk0 : ALnk := ⟨⟨#[]⟩, ⟨#[]⟩, ⟨#[]⟩, 0⟩

def sameToC (L M : List ACol) (k : Nat) : Bool := (List.range k).all fun i => match L[i]?, M[i]? with | some c, some d => eqC c d | _, _ => false
def colsSame (L M : List ACol) : Bool := decide (L.length = M.length) && sameToC L M L.length
def sameToS (L M : List ASet) (k : Nat) : Bool := (List.range k).all fun i => match L[i]?, M[i]? with | some c, some d => eqS c d | _, _ => false
def setsSame (L M : List ASet) : Bool := decide (L.length = M.length) && sameToS L M L.length

/-- A change that can be read, as the specification asks it. -/
def specChg (g : AChg) : Bool :=
  if g.kd = 1 then g.c.ok && (g.nm.toList == [] && g.nw.toList == [])
  else if g.kd = 2 then nameOk g.nm && (g.nw.toList == [] && eqC g.c (colK 0))
  else if g.kd = 3 then nameOk g.nm && (nameOk g.nw && eqC g.c (colK 0))
  else if g.kd = 4 then nameOk g.nm && (g.nw.toList == [] && (eqC g.c (colK 1) || eqC g.c (colK 2)))
  else false
/-- Nothing that its kind has not. -/
def specOnly (x : AAct) : Bool :=
  ((x.kd == 2 || eqK x.l lnk0) && (!(x.kd == 2) || x.nm.toList == [])) && (((x.kd == 6 || eqX x.g chg0) && (x.kd == 1 || decide (x.cols.length = 0))) && ((x.kd == 3 || (x.kd == 4 || decide (x.sets.length = 0))) && (x.kd == 4 || (x.kd == 5 || x.id == 0))))
def specKind (x : AAct) : Bool :=
  if x.kd = 1 then colsOk x.cols else if x.kd = 2 then linkOk x.l else if x.kd = 3 then setsOk x.sets else if x.kd = 4 then setsOk x.sets else if x.kd = 5 then true else if x.kd = 6 then specChg x.g else false
def specAct (x : AAct) : Bool := specOnly x && ((x.kd == 2 || nameOk x.nm) && (idOk x.id && specKind x))

def kindOk (k : Int) : Bool := k == 1 || k == 2
def howOk (k : Int) : Bool := k == 1 || (k == 2 || k == 3)
/-- What a deed asks of itself. -/
def implDeed (x : AAct) : Bool :=
  if x.kd = 1 then nameOk x.nm && (decide (1 ≤ x.cols.length) && (decide (x.cols.length ≤ 5) && x.cols.all ACol.ok))
  else if x.kd = 2 then nameOk x.l.fr && (nameOk x.l.co && (nameOk x.l.tt && howOk x.l.hw))
  else if x.kd = 3 then nameOk x.nm && (decide (x.sets.length ≤ 5) && x.sets.all ASet.ok)
  else if x.kd = 4 then nameOk x.nm && (idOk x.id && (decide (x.sets.length ≤ 5) && x.sets.all ASet.ok))
  else if x.kd = 5 then nameOk x.nm && idOk x.id
  else if x.kd = 6 then
    if x.g.kd = 1 then nameOk x.nm && x.g.c.ok
    else if x.g.kd = 2 then nameOk x.nm && nameOk x.g.nm
    else if x.g.kd = 3 then nameOk x.nm && (nameOk x.g.nm && nameOk x.g.nw)
    else if x.g.kd = 4 then nameOk x.nm && (nameOk x.g.nm && kindOk x.g.c.kd)
    else false
  else false
/-- What a deed keeps of what is done. -/
def deedAct (x : AAct) : AAct :=
  if x.kd = 1 then ⟨1, x.nm, 0, [], x.cols, chg0, lnk0⟩
  else if x.kd = 2 then ⟨2, ⟨#[]⟩, 0, [], [], chg0, x.l⟩
  else if x.kd = 3 then ⟨3, x.nm, 0, x.sets, [], chg0, lnk0⟩
  else if x.kd = 4 then ⟨4, x.nm, x.id, x.sets, [], chg0, lnk0⟩
  else if x.kd = 5 then ⟨5, x.nm, x.id, [], [], chg0, lnk0⟩
  else if x.g.kd = 1 then ⟨6, x.nm, 0, [], [], ⟨1, ⟨#[]⟩, ⟨#[]⟩, x.g.c⟩, lnk0⟩
  else if x.g.kd = 2 then ⟨6, x.nm, 0, [], [], ⟨2, x.g.nm, ⟨#[]⟩, colK 0⟩, lnk0⟩
  else if x.g.kd = 3 then ⟨6, x.nm, 0, [], [], ⟨3, x.g.nm, x.g.nw, colK 0⟩, lnk0⟩
  else ⟨6, x.nm, 0, [], [], ⟨4, x.g.nm, ⟨#[]⟩, colK x.g.c.kd⟩, lnk0⟩
def actSame (y x : AAct) : Bool := y.kd == x.kd && (y.nm.toList == x.nm.toList && (y.id == x.id && (setsSame y.sets x.sets && (colsSame y.cols x.cols && (eqX y.g x.g && eqK y.l x.l)))))
def implAct (x : AAct) : Bool := implDeed x && actSame (deedAct x) x

theorem eqC_refl (c : ACol) : eqC c c = true := by simp [eqC]
theorem eqX_refl (c : AChg) : eqX c c = true := by simp [eqX, eqC]
theorem eqK_refl (c : ALnk) : eqK c c = true := by simp [eqK]
theorem eqS_refl (c : ASet) : eqS c c = true := by simp [eqS]
theorem colsSame_refl (L : List ACol) : colsSame L L = true := by
  simp only [colsSame, sameToC, decide_true, Bool.true_and, List.all_eq_true, List.mem_range]
  intro i hi
  simp [List.getElem?_eq_getElem hi, eqC_refl]
theorem setsSame_refl (L : List ASet) : setsSame L L = true := by
  simp only [setsSame, sameToS, decide_true, Bool.true_and, List.all_eq_true, List.mem_range]
  intro i hi
  simp [List.getElem?_eq_getElem hi, eqS_refl]
theorem colsSame_nil (L : List ACol) : colsSame [] L = decide (L.length = 0) := by
  simp only [colsSame, sameToC, List.length_nil, List.range_zero, List.all_nil, Bool.and_true]
  rw [Bool.eq_iff_iff]
  simp only [decide_eq_true_eq]
  omega
theorem setsSame_nil (L : List ASet) : setsSame [] L = decide (L.length = 0) := by
  simp only [setsSame, sameToS, List.length_nil, List.range_zero, List.all_nil, Bool.and_true]
  rw [Bool.eq_iff_iff]
  simp only [decide_eq_true_eq]
  omega
theorem eqC_comm (c d : ACol) : eqC c d = eqC d c := by
  rw [Bool.eq_iff_iff]
  simp only [eqC, Bool.and_eq_true, beq_iff_eq]
  constructor <;> (rintro ⟨h1, h2, h3, h4, h5, h6, h7⟩; exact ⟨h1.symm, h2.symm, h3.symm, h4.symm, h5.symm, h6.symm, h7.symm⟩)
theorem eqX_comm (c d : AChg) : eqX c d = eqX d c := by
  rw [Bool.eq_iff_iff]
  simp only [eqX, Bool.and_eq_true, beq_iff_eq, eqC_comm c.c d.c]
  constructor <;> (rintro ⟨h1, h2, h3, h4⟩; exact ⟨h1.symm, h2.symm, h3.symm, h4⟩)
theorem eqK_comm (c d : ALnk) : eqK c d = eqK d c := by
  rw [Bool.eq_iff_iff]
  simp only [eqK, Bool.and_eq_true, beq_iff_eq]
  constructor <;> (rintro ⟨h1, h2, h3, h4⟩; exact ⟨h1.symm, h2.symm, h3.symm, h4.symm⟩)
theorem toList_empty : (⟨#[]⟩ : ByteArray).toList = [] := by simp [ByteArray.toList_eq]
theorem how_link (l : ALnk) : howOk l.hw = (decide (1 ≤ l.hw) && decide (l.hw ≤ 3)) := by
  rw [Bool.eq_iff_iff]
  simp only [howOk, Bool.or_eq_true, Bool.and_eq_true, beq_iff_eq, decide_eq_true_eq]
  omega
theorem idOk_nought : idOk 0 = true := by simp [idOk]
theorem beq_comm_int (a b : Int) : (a == b) = (b == a) := by
  rw [Bool.eq_iff_iff]
  simp only [beq_iff_eq]
  exact eq_comm
theorem empty_comm (a : List UInt8) : (([] : List UInt8) == a) = (a == []) := by
  rw [Bool.eq_iff_iff]
  simp only [beq_iff_eq]
  exact eq_comm
/-- A column that has a kind alone, its kind being one of the two. -/
theorem kind_col (c : ACol) : (kindOk c.kd && eqC (colK c.kd) c) = (eqC c (colK 1) || eqC c (colK 2)) := by
  rw [Bool.eq_iff_iff]
  simp only [kindOk, eqC, Bool.and_eq_true, Bool.or_eq_true, beq_iff_eq]
  constructor
  · rintro ⟨h | h, h1, h2, h3, h4, h5, h6, h7⟩
    · exact Or.inl ⟨h1.symm, h, h3.symm, h4.symm, h5.symm, h6.symm, h7.symm⟩
    · exact Or.inr ⟨h1.symm, h, h3.symm, h4.symm, h5.symm, h6.symm, h7.symm⟩
  · rintro (⟨h1, h2, h3, h4, h5, h6, h7⟩ | ⟨h1, h2, h3, h4, h5, h6, h7⟩)
    · exact ⟨Or.inl h2, h1.symm, trivial, h3.symm, h4.symm, h5.symm, h6.symm, h7.symm⟩
    · exact ⟨Or.inr h2, h1.symm, trivial, h3.symm, h4.symm, h5.symm, h6.symm, h7.symm⟩

set_option maxHeartbeats 4000000 in
/-- What the program asks is what the specification asks. -/
theorem impl_spec (x : AAct) : implAct x = specAct x := by
  have hid : (x.id == 0) = true → idOk x.id = true := fun h => by rw [beq_iff_eq.1 h]; exact idOk_nought
  have hh := how_link x.l
  have hk := kind_col x.g.c
  have e0 : ∀ y : ByteArray, ((⟨#[]⟩ : ByteArray).toList == y.toList) = (y.toList == []) := fun y => by rw [toList_empty, empty_comm]
  have ei : ((0 : Int) == x.id) = (x.id == 0) := beq_comm_int _ _
  unfold implAct specAct specOnly specKind implDeed deedAct
  by_cases h1 : x.kd = 1
  · simp only [h1, actSame, setsSame_nil, colsSame_refl, eqX_comm chg0, eqK_comm lnk0, ei, colsOk, if_true, beq_self_eq_true, Bool.true_and, Bool.true_or, Bool.and_true, Int.reduceBEq, Bool.false_or, Bool.not_false]
    revert hid
    generalize (x.id == 0) = a; generalize idOk x.id = b; generalize nameOk x.nm = c; generalize decide (1 ≤ x.cols.length) = d; generalize decide (x.cols.length ≤ 5) = e; generalize x.cols.all ACol.ok = f; generalize eqX x.g chg0 = g; generalize eqK x.l lnk0 = h; generalize decide (x.sets.length = 0) = i
    cases a <;> cases b <;> cases c <;> cases d <;> cases e <;> cases f <;> cases g <;> cases h <;> cases i <;> simp
  by_cases h2 : x.kd = 2
  · simp only [h2, actSame, setsSame_nil, colsSame_nil, eqX_comm chg0, eqK_refl, e0, ei, linkOk, hh, if_true, beq_self_eq_true, Bool.true_and, Bool.true_or, Bool.and_true, Int.reduceBEq, Bool.false_or, Bool.not_true, Int.reduceEq, if_false]
    revert hid
    generalize (x.id == 0) = a; generalize idOk x.id = b; generalize nameOk x.l.fr = c; generalize nameOk x.l.co = d; generalize nameOk x.l.tt = e; generalize (decide (1 ≤ x.l.hw) && decide (x.l.hw ≤ 3)) = f; generalize eqX x.g chg0 = g; generalize (x.nm.toList == []) = h; generalize decide (x.sets.length = 0) = i; generalize decide (x.cols.length = 0) = k
    cases a <;> cases b <;> cases c <;> cases d <;> cases e <;> cases f <;> cases g <;> cases h <;> cases i <;> cases k <;> simp
  by_cases h3 : x.kd = 3
  · simp only [h3, actSame, setsSame_refl, colsSame_nil, eqX_comm chg0, eqK_comm lnk0, ei, setsOk, if_true, beq_self_eq_true, Bool.true_and, Bool.true_or, Bool.and_true, Int.reduceBEq, Bool.false_or, Bool.not_false, Int.reduceEq, if_false]
    revert hid
    generalize (x.id == 0) = a; generalize idOk x.id = b; generalize nameOk x.nm = c; generalize decide (x.sets.length ≤ 5) = e; generalize x.sets.all ASet.ok = f; generalize eqX x.g chg0 = g; generalize eqK x.l lnk0 = h; generalize decide (x.cols.length = 0) = i
    cases a <;> cases b <;> cases c <;> cases e <;> cases f <;> cases g <;> cases h <;> cases i <;> simp
  by_cases h4 : x.kd = 4
  · simp only [h4, actSame, setsSame_refl, colsSame_nil, eqX_comm chg0, eqK_comm lnk0, setsOk, if_true, beq_self_eq_true, Bool.true_and, Bool.true_or, Bool.or_true, Bool.and_true, Int.reduceBEq, Bool.false_or, Bool.not_false, Int.reduceEq, if_false]
    generalize idOk x.id = b; generalize nameOk x.nm = c; generalize decide (x.sets.length ≤ 5) = e; generalize x.sets.all ASet.ok = f; generalize eqX x.g chg0 = g; generalize eqK x.l lnk0 = h; generalize decide (x.cols.length = 0) = i
    cases b <;> cases c <;> cases e <;> cases f <;> cases g <;> cases h <;> cases i <;> rfl
  by_cases h5 : x.kd = 5
  · simp only [h5, actSame, setsSame_nil, colsSame_nil, eqX_comm chg0, eqK_comm lnk0, if_true, beq_self_eq_true, Bool.true_and, Bool.true_or, Bool.or_true, Bool.and_true, Int.reduceBEq, Bool.false_or, Bool.not_false, Int.reduceEq, if_false]
    generalize idOk x.id = b; generalize nameOk x.nm = c; generalize decide (x.sets.length = 0) = e; generalize eqX x.g chg0 = g; generalize eqK x.l lnk0 = h; generalize decide (x.cols.length = 0) = i
    cases b <;> cases c <;> cases e <;> cases g <;> cases h <;> cases i <;> rfl
  by_cases h6 : x.kd = 6
  · unfold specChg
    by_cases g1 : x.g.kd = 1
    · simp only [h6, g1, actSame, eqX, eqC_refl, setsSame_nil, colsSame_nil, eqK_comm lnk0, e0, ei, if_true, beq_self_eq_true, Bool.true_and, Bool.true_or, Bool.and_true, Int.reduceBEq, Bool.false_or, Bool.not_false, Int.reduceEq, if_false]
      revert hid
      generalize (x.id == 0) = a; generalize idOk x.id = b; generalize nameOk x.nm = c; generalize decide (x.sets.length = 0) = e; generalize x.g.c.ok = g; generalize eqK x.l lnk0 = h; generalize decide (x.cols.length = 0) = i; generalize (x.g.nm.toList == []) = j; generalize (x.g.nw.toList == []) = k
      cases a <;> cases b <;> cases c <;> cases e <;> cases g <;> cases h <;> cases i <;> cases j <;> cases k <;> simp
    by_cases g2 : x.g.kd = 2
    · simp only [h6, g2, actSame, eqX, eqC_comm (colK 0), setsSame_nil, colsSame_nil, eqK_comm lnk0, e0, ei, if_true, beq_self_eq_true, Bool.true_and, Bool.true_or, Bool.and_true, Int.reduceBEq, Bool.false_or, Bool.not_false, Int.reduceEq, if_false]
      revert hid
      generalize (x.id == 0) = a; generalize idOk x.id = b; generalize nameOk x.nm = c; generalize decide (x.sets.length = 0) = e; generalize eqC x.g.c (colK 0) = g; generalize eqK x.l lnk0 = h; generalize decide (x.cols.length = 0) = i; generalize nameOk x.g.nm = j; generalize (x.g.nw.toList == []) = k
      cases a <;> cases b <;> cases c <;> cases e <;> cases g <;> cases h <;> cases i <;> cases j <;> cases k <;> simp
    by_cases g3 : x.g.kd = 3
    · simp only [h6, g3, actSame, eqX, eqC_comm (colK 0), setsSame_nil, colsSame_nil, eqK_comm lnk0, ei, if_true, beq_self_eq_true, Bool.true_and, Bool.true_or, Bool.and_true, Int.reduceBEq, Bool.false_or, Bool.not_false, Int.reduceEq, if_false]
      revert hid
      generalize (x.id == 0) = a; generalize idOk x.id = b; generalize nameOk x.nm = c; generalize decide (x.sets.length = 0) = e; generalize eqC x.g.c (colK 0) = g; generalize eqK x.l lnk0 = h; generalize decide (x.cols.length = 0) = i; generalize nameOk x.g.nm = j; generalize nameOk x.g.nw = k
      cases a <;> cases b <;> cases c <;> cases e <;> cases g <;> cases h <;> cases i <;> cases j <;> cases k <;> simp
    by_cases g4 : x.g.kd = 4
    · simp only [h6, g4, actSame, eqX, setsSame_nil, colsSame_nil, eqK_comm lnk0, e0, ei, ← hk, if_true, beq_self_eq_true, Bool.true_and, Bool.true_or, Bool.and_true, Int.reduceBEq, Bool.false_or, Bool.not_false, Int.reduceEq, if_false]
      revert hid
      generalize (x.id == 0) = a; generalize idOk x.id = b; generalize nameOk x.nm = c; generalize decide (x.sets.length = 0) = e; generalize eqC (colK x.g.c.kd) x.g.c = g; generalize eqK x.l lnk0 = h; generalize decide (x.cols.length = 0) = i; generalize nameOk x.g.nm = j; generalize (x.g.nw.toList == []) = k; generalize kindOk x.g.c.kd = l
      cases a <;> cases b <;> cases c <;> cases e <;> cases g <;> cases h <;> cases i <;> cases j <;> cases k <;> cases l <;> simp
    · simp [h6, g1, g2, g3, g4]
  · simp [h1, h2, h3, h4, h5, h6]

end Go.Proofs.YtpcfebekkgfpjaaGreatDoor

/- Contracts of impl's idOk, howWord, kindWord, setOk, allOk at values told and at columns, and setsOk, over the seat's translation. -/
namespace Go.Proofs.YtpcfebekkgfpjaaGreatDoor
open Go.RowKit

theorem id_ok (n : Int) (w : World) : Calls Tryz.prog 246 #[.int .i64 n] w fun e w' => e = .returned (.bool (idOk n)) ∧ w' = w := by
  go_enter Tryz.func246, Tryz.ntmps246
  go_wp2
  all_goals
    go_ret
    refine ⟨ret_bool ?_, rfl⟩
    rw [Bool.eq_iff_iff]
    simp only [idOk, Bool.and_eq_true, decide_eq_true_eq, Bool.false_eq_true, false_iff]
    omega

def howS (k : Int) : ByteArray := if k = 1 then ⟨#[115, 116, 111, 112]⟩ else if k = 2 then ⟨#[103, 111, 110, 101]⟩ else if k = 3 then ⟨#[110, 111, 110, 101]⟩ else ⟨#[]⟩
def kindS (k : Int) : ByteArray := if k = 1 then ⟨#[110, 117, 109]⟩ else if k = 2 then ⟨#[116, 101, 120, 116]⟩ else ⟨#[]⟩
theorem how_word (k : Int) (w : World) : Calls Tryz.prog 94 #[.int .i64 k] w fun e w' => e = .returned (.string (howS k)) ∧ w' = w := by
  go_enter Tryz.func94, Tryz.ntmps94
  go_wp2
  all_goals
    go_ret
    refine ⟨?_, rfl⟩
    simp_all [howS]
theorem kind_word (k : Int) (w : World) : Calls Tryz.prog 96 #[.int .i64 k] w fun e w' => e = .returned (.string (kindS k)) ∧ w' = w := by
  go_enter Tryz.func96, Tryz.ntmps96
  go_wp2
  all_goals
    go_ret
    refine ⟨?_, rfl⟩
    simp_all [kindS]
theorem how_some (k : Int) : ((howS k).toList != []) = howOk k := by
  unfold howS howOk
  by_cases h1 : k = 1
  · subst h1; simp [ByteArray.toList_eq]
  by_cases h2 : k = 2
  · subst h2; simp [ByteArray.toList_eq]
  by_cases h3 : k = 3
  · subst h3; simp [ByteArray.toList_eq]
  simp [h1, h2, h3]
theorem kind_some (k : Int) : ((kindS k).toList != []) = kindOk k := by
  unfold kindS kindOk
  by_cases h1 : k = 1
  · subst h1; simp [ByteArray.toList_eq]
  by_cases h2 : k = 2
  · subst h2; simp [ByteArray.toList_eq]
  simp [h1, h2]

theorem empty_not (l : List UInt8) : l.isEmpty = !(l != []) := by cases l <;> rfl
theorem how_none (k : Int) : (howS k).toList.isEmpty = !howOk k := by rw [empty_not, how_some]
theorem kind_none (k : Int) : (kindS k).toList.isEmpty = !kindOk k := by rw [empty_not, kind_some]

/-- The box at B holds a value told in W, and W lies over w. -/
abbrev Held4 (w : World) (B : Nat) (nm : ByteArray) (k n : Int) (s : ByteArray) (W : World) : Prop :=
  W.cell? ⟨B, 0, none⟩ = some (.string nm) ∧ W.cell? ⟨B, 1, none⟩ = some (.int .i64 k) ∧ W.cell? ⟨B, 2, none⟩ = some (.int .i64 n) ∧ W.cell? ⟨B, 3, none⟩ = some (.string s) ∧ B + 1 ≤ W.heap.size ∧ Below B w W
theorem held4_next {w : World} {B : Nat} {nm : ByteArray} {k n : Int} {s : ByteArray} {W W' : World} (h : Held4 w B nm k n s W) (hb : Below W.heap.size W W') : Held4 w B nm k n s W' := by
  obtain ⟨a, b, c, d, g, i⟩ := h
  have hc := (bcell hb).1
  have hz := hb.size
  exact ⟨by rw [hc _ _ (by omega)]; exact a, by rw [hc _ _ (by omega)]; exact b, by rw [hc _ _ (by omega)]; exact c, by rw [hc _ _ (by omega)]; exact d, by omega, i.trans (hb.mono (by omega))⟩
theorem held4_box (w : World) (nm : ByteArray) (k n : Int) (s : ByteArray) (t : TypeId) : Held4 w w.heap.size nm k n s (w.alloc (.cells #[.string nm, .int .i64 k, .int .i64 n, .string s] t)) := by
  refine ⟨?_, ?_, ?_, ?_, ?_, (Below.refl _ _).alloc (Nat.le_refl _) _⟩
  all_goals go_simp

set_option maxHeartbeats 1000000 in
theorem set_ok (c : ASet) (w : World) (hf : c.fit) :
    Calls Tryz.prog 241 #[.agg #[.string c.nm, .int .i64 c.k, .int .i64 c.n, .string c.s]] w fun e w' => e = .returned (.bool c.ok) ∧ Below w.heap.size w w' := by
  obtain ⟨hf1, hf2⟩ := hf
  go_enter Tryz.func241, Tryz.ntmps241
  go_wp2_with (first
    | (go_at_call 220; refine (name_ok _ _ hf1).mono ?_; rintro e w' ⟨rfl, hb⟩; have hN := held4_next (held4_box _ _ _ _ _ _) hb; clear hb)
    | (go_at_call 227; refine (impl_ok _ _ _ _ hf2).mono ?_; rintro e w' ⟨rfl, hb⟩; have hM := held4_next hN hb; clear hb))
  all_goals
    go_ret
    first
      | (have hE := hM
         refine ⟨?_, hE.2.2.2.2.2⟩
         simp_all [ASet.ok]
         done)
      | (have hE := hN
         refine ⟨?_, hE.2.2.2.2.2⟩
         simp_all [ASet.ok])

theorem all_next {α : Type} (p : α → Bool) (L : List α) (k : Nat) (c : α) (hc : L[k]? = some c) (a : (L.take k).all p = true) (b : p c = true) : (L.take (k + 1)).all p = true := by
  obtain ⟨hk, rfl⟩ := List.getElem?_eq_some_iff.1 hc
  rw [List.take_succ_eq_append_getElem hk, List.all_append, a]
  simp [b]
theorem all_bad {α : Type} (p : α → Bool) (L : List α) (k : Nat) (c : α) (hc : L[k]? = some c) (b : p c = false) : L.all p = false := by
  rw [List.all_eq_false]
  exact ⟨c, List.mem_of_getElem? hc, by simp [b]⟩

set_option maxRecDepth 100000 in
set_option maxHeartbeats 1000000 in
theorem all_sets (a : Option Addr) (cap : Nat) (L : List ASet) (w : World) (ha : SetsAt w a L) (hf : ∀ c ∈ L, c.fit) (hm : L.length ≤ maxLen) :
    Calls Tryz.prog 240 #[.slice a L.length cap, .func (.func 241) #[] #[]] w fun e w' => e = .returned (.bool (L.all ASet.ok)) ∧ Below w.heap.size w w' := by
  unfold maxLen at hm
  go_enter Tryz.func240, Tryz.ntmps240
  go_wp2_with fail
  go_loopw [9] (fun i wr => ∃ k : Nat, k ≤ L.length ∧ i = .int .i64 k ∧ Hid ((L.take k).all ASet.ok = true ∧ Below w.heap.size w wr)) (fun i _ => L.length - (intOf i).toNat)
  case atStart => exact ⟨0, Nat.zero_le _, rfl, ⟨rfl, Below.refl _ _⟩⟩
  case round =>
    obtain ⟨k, hk, rfl, hH⟩ := hrel
    by_cases hlt : k < L.length
    · obtain ⟨b, o, hab, hbl, hr⟩ := (ha.keep hH.out.2).at hlt
      have hc := List.getElem?_eq_getElem hlt
      have hft := hf _ (List.getElem_mem hlt)
      revert hr hc hft
      generalize L[k] = c
      intro hr hc hft
      have hix : ∀ wx, (Instr.indexAt 23 (.slice a L.length cap) (.int .i64 k)).run Tryz.prog wx = .ok (.pointer (some ⟨b, o + k * 4, none⟩)) wx := fun wx => by
        rw [hab]; exact run_ixk 4 _ _ _ _ _ _ _ wx hlt Tryz.underlying23 (Tryz.sizeOf102 wx)
      have hT := cellsS_of hr
      have H1 : Hid (Below wr.heap.size wr (wr.alloc (.cells #[.string c.nm, .int .i64 c.k, .int .i64 c.n, .string c.s] 102))) := (Below.refl _ _).alloc (Nat.le_refl _) _
      have hC : Hid (L[k]? = some c ∧ c.fit) := ⟨hc, hft⟩
      clear hab hr ha hbl hc hft hf
      go_wp2_with fail
      refine (set_ok c _ hC.out.2).mono ?_
      rintro e w' ⟨rfl, hq⟩
      have hP : Hid ((L.take k).all ASet.ok = true ∧ Below w.heap.size w w') := ⟨hH.out.1, hH.out.2.trans ((H1.out.trans (hq.mono H1.out.size)).mono hH.out.2.size)⟩
      clear hT hq H1 hH
      cases hs : c.ok
      · go_wp2_with fail
        go_ret
        exact ⟨ret_bool (all_bad _ L k c hC.out.1 hs).symm, hP.out.2⟩
      · go_wp2_with fail
        go_roundw
        case rel => exact ⟨k + 1, by omega, by go_num, ⟨all_next _ L k c hC.out.1 hP.out.1 hs, hP.out.2⟩⟩
        case measure => simp [intOf]; omega
    · have hkl : k = L.length := by omega
      subst hkl
      go_wp2_with fail
      go_ret
      refine ⟨ret_bool ?_, hH.out.2⟩
      have h := hH.out.1
      rw [List.take_length] at h
      exact h.symm

set_option maxRecDepth 100000 in
set_option maxHeartbeats 1000000 in
theorem all_cols (a : Option Addr) (cap : Nat) (L : List ACol) (w : World) (ha : ColsAt w a L) (hf : ∀ c ∈ L, c.fit) (hm : L.length ≤ maxLen) :
    Calls Tryz.prog 221 #[.slice a L.length cap, .func (.func 222) #[] #[]] w fun e w' => e = .returned (.bool (L.all ACol.ok)) ∧ Below w.heap.size w w' := by
  unfold maxLen at hm
  go_enter Tryz.func221, Tryz.ntmps221
  go_wp2_with fail
  go_loopw [9] (fun i wr => ∃ k : Nat, k ≤ L.length ∧ i = .int .i64 k ∧ Hid ((L.take k).all ACol.ok = true ∧ Below w.heap.size w wr)) (fun i _ => L.length - (intOf i).toNat)
  case atStart => exact ⟨0, Nat.zero_le _, rfl, ⟨rfl, Below.refl _ _⟩⟩
  case round =>
    obtain ⟨k, hk, rfl, hH⟩ := hrel
    by_cases hlt : k < L.length
    · obtain ⟨b, o, hab, hbl, hr⟩ := (ha.keep hH.out.2).at hlt
      have hc := List.getElem?_eq_getElem hlt
      have hft := hf _ (List.getElem_mem hlt)
      revert hr hc hft
      generalize L[k] = c
      intro hr hc hft
      have hix : ∀ wx, (Instr.indexAt 24 (.slice a L.length cap) (.int .i64 k)).run Tryz.prog wx = .ok (.pointer (some ⟨b, o + k * 7, none⟩)) wx := fun wx => by
        rw [hab]; exact run_ix _ _ _ _ _ _ _ wx hlt Tryz.underlying24 (Tryz.sizeOf28 wx)
      have hT := cells7_of hr
      have H1 : Hid (Below wr.heap.size wr (wr.alloc (.cells #[.string c.nm, .int .i64 c.kd, .bool c.nd, .bool c.oc, .int .i64 c.k, .int .i64 c.n, .string c.s] 28))) := (Below.refl _ _).alloc (Nat.le_refl _) _
      have hC : Hid (L[k]? = some c ∧ c.fit) := ⟨hc, hft⟩
      clear hab hr ha hbl hc hft hf
      go_wp2_with fail
      refine (impl_col c.nm c.kd c.nd c.oc c.k c.n c.s _ hC.out.2.1 hC.out.2.2).mono ?_
      rintro e w' ⟨rfl, hq⟩
      have hP : Hid ((L.take k).all ACol.ok = true ∧ Below w.heap.size w w') := ⟨hH.out.1, hH.out.2.trans ((H1.out.trans (hq.mono H1.out.size)).mono hH.out.2.size)⟩
      clear hT hq H1 hH
      cases hs : colOk c.nm c.kd c.oc c.k c.n c.s
      · go_wp2_with fail
        go_ret
        exact ⟨ret_bool (all_bad ACol.ok L k c hC.out.1 hs).symm, hP.out.2⟩
      · go_wp2_with fail
        go_roundw
        case rel => exact ⟨k + 1, by omega, by go_num, ⟨all_next ACol.ok L k c hC.out.1 hP.out.1 hs, hP.out.2⟩⟩
        case measure => simp [intOf]; omega
    · have hkl : k = L.length := by omega
      subst hkl
      go_wp2_with fail
      go_ret
      refine ⟨ret_bool ?_, hH.out.2⟩
      have h := hH.out.1
      rw [List.take_length] at h
      exact h.symm

set_option maxRecDepth 100000 in
set_option maxHeartbeats 1000000 in
theorem sets_ok (a : Option Addr) (cap : Nat) (L : List ASet) (w : World) (ha : SetsAt w a L) (hf : ∀ c ∈ L, c.fit) (hm : L.length ≤ maxLen) :
    Calls Tryz.prog 237 #[.slice a L.length cap] w fun e w' => e = .returned (.bool (decide (L.length ≤ 5) && L.all ASet.ok)) ∧ Below w.heap.size w w' := by
  by_cases h5 : (L.length : Int) ≤ 5
  · have h5' : L.length ≤ 5 := by omega
    go_enter Tryz.func237, Tryz.ntmps237
    go_wp2_with fail
    refine (all_sets _ _ _ _ ha hf hm).mono ?_
    rintro e w' ⟨rfl, hq⟩
    go_wp2_with fail
    go_ret
    exact ⟨ret_bool (by simp [h5']), hq⟩
  · have h5' : ¬ L.length ≤ 5 := by omega
    go_enter Tryz.func237, Tryz.ntmps237
    go_wp2_with fail
    go_ret
    exact ⟨ret_bool (by simp), Below.refl _ _⟩

end Go.Proofs.YtpcfebekkgfpjaaGreatDoor
