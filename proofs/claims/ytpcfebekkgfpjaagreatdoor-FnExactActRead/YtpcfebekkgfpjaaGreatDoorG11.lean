/- impl.ValRead and spec.ValRead answer the same at every text, over the seat's translation. -/
import Derived.Test.YtpcfebekkgfpjaaGreatDoorG10
import Derived.Test.YtpcfebekkgfpjaaGreatDoorRows
import Derived.WalkKit
import Derived.WalkSpells
import Derived.WalkLawsBesides
import Derived.Laws.StructEq
import Derived.Test.YtpcfebekkgfpjaaGreatDoorG09
import Derived.Test.YtpcfebekkgfpjaaGreatDoorG05
import Derived.Deep.QuietTactic
import Derived.BigQuiet
namespace Go.Proofs.YtpcfebekkgfpjaaGreatDoor
open Go.RowKit

theorem quoted_of {l i : List UInt8} (h : 39 :: (i ++ [39]) = l) : quoted l = true ∧ inner l = i := by
  subst h
  have hp : Lib.hasPrefix (39 :: (i ++ [39])) [39] = true := by simp [Lib.hasPrefix]
  have ht : Lib.trimPrefix (39 :: (i ++ [39])) [39] = i ++ [39] := by unfold Lib.trimPrefix; rw [if_pos hp]; rfl
  have hs : Lib.hasSuffix (i ++ [39]) [39] = true := by unfold Lib.hasSuffix; rw [List.isSuffixOf_iff_suffix]; exact List.suffix_append _ _
  refine ⟨by unfold quoted; rw [ht, hp, hs]; rfl, ?_⟩
  unfold inner
  rw [ht]
  unfold Lib.trimSuffix
  rw [if_pos hs]
  simp
theorem quoted_shape {l : List UInt8} (h : quoted l = true) : 39 :: (inner l ++ [39]) = l := by
  unfold quoted at h
  rw [Bool.and_eq_true] at h
  obtain ⟨hp, hs⟩ := h
  match l, hp, hs with
  | [], hp, _ => simp [Lib.hasPrefix] at hp
  | c :: r, hp, hs =>
    have hc : c = 39 := by simp [Lib.hasPrefix] at hp; exact hp.symm
    subst hc
    have ht : Lib.trimPrefix (39 :: r) [39] = r := by unfold Lib.trimPrefix; rw [if_pos hp]; rfl
    rw [ht] at hs
    unfold inner
    rw [ht]
    unfold Lib.trimSuffix
    rw [if_pos hs]
    unfold Lib.hasSuffix at hs
    rw [List.isSuffixOf_iff_suffix] at hs
    obtain ⟨i, hi⟩ := hs
    rw [← hi]
    simp
theorem numL_quoted {l i : List UInt8} (h : 39 :: i = l) (n : Int) (hn : numL l = (n, true)) : False := by
  subst h
  unfold numL at hn
  rw [if_neg (by simp)] at hn
  have := numS_none hn (by simp [numScan, dig])
  cases this.2
theorem not_quoted {l : List UInt8} {n : Int} (hn : numL l = (n, true)) : quoted l = false := by
  cases hq : quoted l
  · rfl
  · exact (numL_quoted (quoted_shape hq) n hn).elim
theorem numL_zero {l : List UInt8} {n : Int} (h : numL l = (n, false)) : n = 0 := by
  have hz : ∀ (neg : Bool) (s : List UInt8), numS neg s = (n, false) → n = 0 := by
    intro neg s hs
    by_cases hb : s.length = 0 ∨ 17 < s.length ∨ (s.head? = some 48 ∧ (1 < s.length ∨ neg = true))
    · exact (numS_bad hs hb).1.symm
    · cases hc : numScan s 0 with
      | none => exact (numS_none hs hc).1.symm
      | some a => have := (numS_good hs hb hc).2; cases this
  unfold numL at h
  split at h
  · exact hz _ _ h
  · exact hz _ _ h
theorem readNum_no {l : List UInt8} (h : numL l = (0, false)) : readNum l = none := by
  cases hr : readNum l with
  | none => rfl
  | some m => have := numL_of_readNum hr; rw [h] at this; cases this
theorem readNum_no' {l : List UInt8} {n : Int} (h : numL l = (n, true)) (hne : ¬ (Lib.itoa n = l ∧ -999 ≤ n ∧ n ≤ 999)) : readNum l = none := by
  cases hr : readNum l with
  | none => rfl
  | some m =>
    have e := numL_of_readNum hr
    rw [h] at e
    cases e
    exact (hne (readNum_some hr)).elim
theorem zero_no {l : List UInt8} (h : numL l = (0, false)) : ¬ Lib.itoa 0 = l := by
  intro e
  rw [← e, numL_itoa (by omega) (by omega)] at h
  cases h
theorem mid_of (t : ByteArray) (i : List UInt8) (h : 39 :: (i ++ [39]) = t.data.toList) : (t.extract 1 (t.size - 1)).data.toList = i := by
  have hl : t.size = i.length + 2 := by rw [← len_of, ← h]; simp
  have e : (t.extract 1 (t.size - 1)).data.toList = List.take (t.size - 1 - 1) t.data.toList.tail := by simp
  rw [e, ← h, hl]
  simp
theorem bytes_eta (s : ByteArray) : (⟨s.data.toList.toArray⟩ : ByteArray) = s := by cases s; simp

theorem impl_read (t : ByteArray) (w : World) (ht : t.size ≤ maxLen) (htab : Lib.TabIs Tryz.prog w "internal/strconv.uint64pow10" .u64 Lib.pow10Tab) (k n : Int) (x : List UInt8) (b : Bool) (hr : readV t.data.toList = (k, n, x, b)) :
    Calls Tryz.prog 93 #[.string t] w fun e w' => e = .returned (.tuple #[.agg #[.int .i64 k, .int .i64 n, .string ⟨x.toArray⟩], .bool b]) ∧ Below w.heap.size w w' := by
  by_cases hnone : t.data.toList = [110, 111, 110, 101]
  · rw [readV_none hnone] at hr; cases hr
    exact impl_read_none t w hnone
  · cases hq : quoted t.data.toList
    · cases hn : readNum t.data.toList with
      | none => rw [readV_not hnone (by rw [hq]; rfl) hn] at hr; cases hr; exact impl_read_pn t w ht htab hnone hq hn
      | some m => rw [readV_num hnone (by rw [hq]; rfl) hn] at hr; cases hr; exact impl_read_ps t w ht htab hnone hq _ hn
    · cases hk : textOk ⟨(inner t.data.toList).toArray⟩
      · cases hn : readNum t.data.toList with
        | none => rw [readV_not hnone (by rw [hq, hk]; rfl) hn] at hr; cases hr; exact impl_read_qn t w ht htab hnone hq hk hn
        | some m => rw [readV_num hnone (by rw [hq, hk]; rfl) hn] at hr; cases hr; exact impl_read_qs t w ht htab hnone hq hk _ hn
      · rw [readV_text hnone hq hk] at hr; cases hr
        exact impl_read_text t w ht hnone hq hk

theorem spec_read (t : ByteArray) (w : World) (ht : t.size ≤ maxLen) (k n : Int) (x : List UInt8) (b : Bool) (hr : readV t.data.toList = (k, n, x, b)) :
    Calls Tryz.prog 116 #[.string t] w fun e w' => e = .returned (.tuple #[.agg #[.int .i64 k, .int .i64 n, .string ⟨x.toArray⟩], .bool b]) ∧ Below w.heap.size w w' := by
  obtain ⟨m, ok, hN⟩ : ∃ m ok, numL t.data.toList = (m, ok) := ⟨_, _, rfl⟩
  by_cases hnone : t.data.toList = [110, 111, 110, 101]
  · rw [readV_none hnone] at hr; cases hr
    exact spec_read_none t w ht hnone m ok hN
  · cases ok
    · have hm := numL_zero hN
      subst hm
      have hrn := readNum_no hN
      have hz := zero_no hN
      by_cases l2 : (2 : Int) ≤ t.size
      · by_cases l6 : (t.size : Int) ≤ 6
        · cases hk : textOk (t.extract 1 (t.size - 1))
          · have hq : (quoted t.data.toList && textOk ⟨(inner t.data.toList).toArray⟩) = false := by
              cases hq : quoted t.data.toList
              · rfl
              · have e := mid_of t _ (quoted_shape hq)
                rw [← e, bytes_eta, hk]; rfl
            rw [readV_not hnone hq hrn] at hr; cases hr
            exact spec_read_t_bad t w ht hnone hN l2 l6 hk
          · by_cases he : 39 :: ((t.extract 1 (t.size - 1)).data.toList ++ [39]) = t.data.toList
            · obtain ⟨q1, q2⟩ := quoted_of he
              rw [readV_text hnone q1 (by rw [q2, bytes_eta, hk])] at hr; cases hr
              have := spec_read_t_eq t w ht hnone hN l2 l6 hk he
              rw [q2, bytes_eta]
              exact this
            · have hq : quoted t.data.toList = false := by
                cases hq : quoted t.data.toList
                · rfl
                · have e := mid_of t _ (quoted_shape hq)
                  rw [e] at he
                  exact (he (quoted_shape hq)).elim
              rw [readV_not hnone (by rw [hq]; rfl) hrn] at hr; cases hr
              exact spec_read_t_ne t w ht hnone hN l2 l6 hk he
        · have hq : (quoted t.data.toList && textOk ⟨(inner t.data.toList).toArray⟩) = false := by
            cases hq : quoted t.data.toList
            · rfl
            · have e := congrArg List.length (quoted_shape hq)
              rw [len_of] at e
              simp only [List.length_cons, List.length_append, List.length_nil] at e
              rw [big_bad ⟨(inner t.data.toList).toArray⟩ (show ¬ (inner t.data.toList).length ≤ 4 by omega)]; rfl
          rw [readV_not hnone hq hrn] at hr; cases hr
          exact spec_read_long t w ht hnone hN l2 l6 hz
      · have hq : quoted t.data.toList = false := by
          cases hq : quoted t.data.toList
          · rfl
          · have e := congrArg List.length (quoted_shape hq)
            rw [len_of] at e
            simp only [List.length_cons, List.length_append, List.length_nil] at e
            omega
        rw [readV_not hnone (by rw [hq]; rfl) hrn] at hr; cases hr
        exact spec_read_short t w ht hnone hN l2 hz
    · have hq := not_quoted hN
      have hq' : (quoted t.data.toList && textOk ⟨(inner t.data.toList).toArray⟩) = false := by rw [hq]; rfl
      cases hk : numOk m
      · have hrn := readNum_no' hN (fun h => by simp only [numOk, Bool.and_eq_false_iff, decide_eq_false_iff_not] at hk; omega)
        rw [readV_not hnone hq' hrn] at hr; cases hr
        exact spec_read_n_bad t w ht hnone m hN hk
      · by_cases he : Lib.itoa m = t.data.toList
        · have hb : -999 ≤ m ∧ m ≤ 999 := by simpa [numOk] using hk
          rw [readV_num hnone hq' (readNum_iff.2 ⟨he, hb⟩)] at hr; cases hr
          exact spec_read_n_eq t w ht hnone _ hN hk he
        · have hrn := readNum_no' hN (fun h => he h.1)
          rw [readV_not hnone hq' hrn] at hr; cases hr
          exact spec_read_n_ne t w ht hnone m hN hk he

end Go.Proofs.YtpcfebekkgfpjaaGreatDoor

/- Two values held against each other, over the seat's translation. -/
namespace Go.Proofs.YtpcfebekkgfpjaaGreatDoor
open Go.RowKit

theorem bytes_ext {s t : ByteArray} (h : s.toList = t.toList) : s = t := by
  rw [ByteArray.toList_eq, ByteArray.toList_eq] at h
  cases s; cases t
  simp at h
  rw [h]

def eqV (k1 n1 : Int) (s1 : ByteArray) (k2 n2 : Int) (s2 : ByteArray) : Bool := k1 == k2 && n1 == n2 && s1.toList == s2.toList

theorem run_neq (k1 n1 : Int) (s1 : ByteArray) (k2 n2 : Int) (s2 : ByteArray) (w : World) :
    (binOp .neq 26 (.agg #[.int .i64 k1, .int .i64 n1, .string s1]) (.agg #[.int .i64 k2, .int .i64 n2, .string s2])).run Tryz.prog w = .ok (.bool (!(eqV k1 n1 s1 k2 n2 s2))) w := by
  unfold eqV
  go_simp
  by_cases a : k1 = k2 <;> by_cases b : n1 = n2 <;> by_cases c : s1.toList = s2.toList <;> simp [a, b, c]

theorem run_eql (k1 n1 : Int) (s1 : ByteArray) (k2 n2 : Int) (s2 : ByteArray) (w : World) :
    (binOp .eql 26 (.agg #[.int .i64 k1, .int .i64 n1, .string s1]) (.agg #[.int .i64 k2, .int .i64 n2, .string s2])).run Tryz.prog w = .ok (.bool (eqV k1 n1 s1 k2 n2 s2)) w := by
  unfold eqV
  go_simp
  by_cases a : k1 = k2 <;> by_cases b : n1 = n2 <;> by_cases c : s1.toList = s2.toList <;> simp [a, b, c]

end Go.Proofs.YtpcfebekkgfpjaaGreatDoor

/- A value is read from its text as it was, and what is read from a text has that text: plain facts. -/
namespace Go.Proofs.YtpcfebekkgfpjaaGreatDoor

theorem ok_none {n : Int} {s : ByteArray} (h : valOk 0 n s = true) : n = 0 ∧ s = ⟨#[]⟩ := by
  unfold valOk at h
  rw [if_pos rfl, Bool.and_eq_true] at h
  exact ⟨by simpa using h.1, bytes_nil (by simpa using h.2)⟩
theorem ok_num {n : Int} {s : ByteArray} (h : valOk 1 n s = true) : s = ⟨#[]⟩ ∧ -999 ≤ n ∧ n ≤ 999 := by
  unfold valOk at h
  rw [if_neg (by decide), if_pos rfl, Bool.and_eq_true] at h
  exact ⟨bytes_nil (by simpa using h.1), by simpa [numOk] using h.2⟩
theorem ok_text {n : Int} {s : ByteArray} (h : valOk 2 n s = true) : n = 0 ∧ textOk s = true := by
  unfold valOk at h
  rw [if_neg (by decide), if_neg (by decide), if_pos rfl, Bool.and_eq_true] at h
  exact ⟨by simpa using h.1, h.2⟩
theorem ok_kind {k n : Int} {s : ByteArray} (h : valOk k n s = true) : k = 0 ∨ k = 1 ∨ k = 2 := by
  unfold valOk at h
  by_cases h0 : k = 0
  · exact Or.inl h0
  · by_cases h1 : k = 1
    · exact Or.inr (Or.inl h1)
    · by_cases h2 : k = 2
      · exact Or.inr (Or.inr h2)
      · rw [if_neg h0, if_neg h1, if_neg h2] at h; cases h

theorem numL_none : numL [110, 111, 110, 101] = (0, false) := by decide
theorem numL_nil : numL [] = (0, false) := by decide

/-- Read from its text a value is as it was. -/
theorem read_text (k n : Int) (s : ByteArray) (h : valOk k n s = true) : readV (textV k n s) = (k, n, s.data.toList, true) := by
  unfold textV
  rw [h]
  rcases ok_kind h with rfl | rfl | rfl
  · obtain ⟨rfl, rfl⟩ := ok_none h
    exact readV_none rfl
  · obtain ⟨rfl, h0, h1⟩ := ok_num h
    show readV (Lib.itoa n) = _
    have hn := numL_itoa h0 h1
    refine readV_num (fun e => ?_) (by rw [not_quoted hn]; rfl) (readNum_itoa h0 h1)
    rw [e, numL_none] at hn
    cases hn
  · obtain ⟨rfl, ht⟩ := ok_text h
    show readV (39 :: (s.data.toList ++ [39])) = _
    obtain ⟨q1, q2⟩ := quoted_of (rfl : 39 :: (s.data.toList ++ [39]) = 39 :: (s.data.toList ++ [39]))
    have := readV_text (l := 39 :: (s.data.toList ++ [39])) (fun e => by cases e) q1 (by rw [q2, bytes_eta]; exact ht)
    rw [q2] at this
    exact this

theorem read_nil : readV [] = (0, 0, [], false) := by
  refine readV_not (fun e => by cases e) (by rw [show quoted [] = false from rfl]; rfl) (readNum_no numL_nil)

theorem read_not (k n : Int) (s : ByteArray) (h : valOk k n s = false) : readV (textV k n s) = (0, 0, [], false) := by
  rw [textV_no h]; exact read_nil

/-- What is read from a text is right, and has that text. -/
theorem text_read {l : List UInt8} {k n : Int} {x : List UInt8} (h : readV l = (k, n, x, true)) : valOk k n ⟨x.toArray⟩ = true ∧ textV k n ⟨x.toArray⟩ = l := by
  by_cases hnone : l = [110, 111, 110, 101]
  · rw [readV_none hnone] at h
    cases h
    have hok : valOk 0 0 ⟨#[]⟩ = true := by simp [valOk]
    have hok' : valOk 0 0 ⟨[].toArray⟩ = true := hok
    refine ⟨hok, ?_⟩
    rw [hnone]
    unfold textV
    rw [hok']
    rfl
  · cases hq : (quoted l && textOk ⟨(inner l).toArray⟩)
    · cases hn : readNum l with
      | none => rw [readV_not hnone hq hn] at h; cases h
      | some m =>
        rw [readV_num hnone hq hn] at h
        cases h
        obtain ⟨e, h0, h1⟩ := readNum_some hn
        have hok : valOk 1 n ⟨#[]⟩ = true := by simp [valOk, numOk, h0, h1]
        refine ⟨hok, ?_⟩
        have hok' : valOk 1 n ⟨[].toArray⟩ = true := hok
        unfold textV
        rw [hok']
        exact e
    · rw [Bool.and_eq_true] at hq
      rw [readV_text hnone hq.1 hq.2] at h
      cases h
      have hok : valOk 2 0 ⟨(inner l).toArray⟩ = true := by unfold valOk; rw [if_neg (by decide), if_neg (by decide), if_pos rfl, hq.2]; rfl
      refine ⟨hok, ?_⟩
      unfold textV
      rw [hok]
      exact quoted_shape hq.1

theorem read_false {l : List UInt8} {k n : Int} {x : List UInt8} (h : readV l = (k, n, x, false)) : k = 0 ∧ n = 0 ∧ x = [] := by
  by_cases hnone : l = [110, 111, 110, 101]
  · rw [readV_none hnone] at h; cases h
  · cases hq : (quoted l && textOk ⟨(inner l).toArray⟩)
    · cases hn : readNum l with
      | none => rw [readV_not hnone hq hn] at h; cases h; exact ⟨rfl, rfl, rfl⟩
      | some m => rw [readV_num hnone hq hn] at h; cases h
    · rw [Bool.and_eq_true] at hq
      rw [readV_text hnone hq.1 hq.2] at h
      cases h

theorem eqV_iff {k1 n1 : Int} {s1 : ByteArray} {k2 n2 : Int} {s2 : ByteArray} : eqV k1 n1 s1 k2 n2 s2 = true ↔ k1 = k2 ∧ n1 = n2 ∧ s1 = s2 := by
  unfold eqV
  simp only [Bool.and_eq_true, beq_iff_eq]
  constructor
  · rintro ⟨⟨a, b⟩, c⟩; exact ⟨a, b, bytes_ext c⟩
  · rintro ⟨rfl, rfl, rfl⟩; exact ⟨⟨rfl, rfl⟩, rfl⟩

/-- Two values of which one is read from a text: they are one just if the texts are. -/
theorem same_iff {k n : Int} {s : ByteArray} {l : List UInt8} {k' n' : Int} {x : List UInt8} (h : readV l = (k', n', x, true)) : eqV k' n' ⟨x.toArray⟩ k n s = (l == textV k n s) := by
  obtain ⟨h1, h2⟩ := text_read h
  rw [Bool.eq_iff_iff, eqV_iff, beq_iff_eq]
  constructor
  · rintro ⟨rfl, rfl, rfl⟩; exact h2.symm
  · intro e
    cases hok : valOk k n s
    · rw [textV_no hok] at e
      rw [e, read_nil] at h
      cases h
    · rw [e, read_text k n s hok] at h
      cases h
      exact ⟨rfl, rfl, bytes_eta s⟩

end Go.Proofs.YtpcfebekkgfpjaaGreatDoor

/- The text of what is done, word by word, and that its words are found again in it: plain facts, no program in them. -/
namespace Go.Proofs.YtpcfebekkgfpjaaGreatDoor
open Go.RowKit

abbrev Bs := List UInt8

/-- A text cut at each c. -/
def cutB (c : UInt8) : Bs → List Bs
  | [] => [[]]
  | b :: r => if b = c then [] :: cutB c r else match cutB c r with
    | [] => [[b]]
    | w :: ws => (b :: w) :: ws
/-- Words with c between. -/
def joinB (c : UInt8) : List Bs → Bs
  | [] => []
  | [w] => w
  | w :: v :: ws => w ++ c :: joinB c (v :: ws)

theorem cutB_cons (c b : UInt8) (r : Bs) : cutB c (b :: r) = if b = c then [] :: cutB c r else match cutB c r with
    | [] => [[b]]
    | w :: ws => (b :: w) :: ws := rfl
theorem cutB_ne (c : UInt8) : ∀ l : Bs, cutB c l ≠ []
  | [] => by simp [cutB]
  | b :: r => by
    unfold cutB
    split
    · simp
    · split <;> simp
theorem cutB_none {c : UInt8} : ∀ {l : Bs}, c ∉ l → cutB c l = [l]
  | [], _ => rfl
  | b :: r, h => by
    have hb : ¬ b = c := fun e => h (by simp [e])
    have hr : c ∉ r := fun e => h (by simp [e])
    unfold cutB
    rw [if_neg hb, cutB_none hr]
theorem cutB_at {c : UInt8} : ∀ {w : Bs} (r : Bs), c ∉ w → cutB c (w ++ c :: r) = w :: cutB c r
  | [], r, _ => by simp [cutB]
  | b :: w, r, h => by
    have hb : ¬ b = c := fun e => h (by simp [e])
    have hr : c ∉ w := fun e => h (by simp [e])
    show cutB c (b :: (w ++ c :: r)) = _
    rw [cutB_cons, if_neg hb, cutB_at r hr]
theorem cut_join {c : UInt8} : ∀ {ws : List Bs}, ws ≠ [] → (∀ w ∈ ws, c ∉ w) → cutB c (joinB c ws) = ws
  | [], h, _ => absurd rfl h
  | [w], _, h => by
    show cutB c w = [w]
    exact cutB_none (h w (by simp))
  | w :: v :: ws, _, h => by
    show cutB c (w ++ c :: joinB c (v :: ws)) = _
    rw [cutB_at _ (h w (by simp)), cut_join (by simp) (fun x hx => h x (by simp [hx]))]

/-- The words of kinds, and of what becomes of what names a row that goes. -/
def kindB (k : Int) : Bs := (kindS k).data.toList
def howB (k : Int) : Bs := (howS k).data.toList
/-- A column's word, and a value's. -/
def colW (c : ACol) : Bs := c.nm.data.toList ++ 58 :: (kindB c.kd ++ ((if c.nd then [33] else []) ++ ((if c.oc then [94] else []) ++ (if c.k = 0 then [] else 61 :: textV c.k c.n c.s))))
def setW (c : ASet) : Bs := c.nm.data.toList ++ 61 :: textV c.k c.n c.s
/-- The words of what is done. -/
def actW (x : AAct) : List Bs :=
  if x.kd = 1 then [116, 97, 98, 108, 101] :: x.nm.data.toList :: x.cols.map colW
  else if x.kd = 2 then [[108, 105, 110, 107], x.l.fr.data.toList, x.l.co.data.toList, x.l.tt.data.toList, howB x.l.hw]
  else if x.kd = 3 then [112, 117, 116] :: x.nm.data.toList :: x.sets.map setW
  else if x.kd = 4 then [115, 101, 116] :: x.nm.data.toList :: Lib.itoa x.id :: x.sets.map setW
  else if x.kd = 5 then [[111, 102, 102], x.nm.data.toList, Lib.itoa x.id]
  else if x.g.kd = 1 then [[97, 100, 100], x.nm.data.toList, colW x.g.c]
  else if x.g.kd = 2 then [[100, 114, 111, 112], x.nm.data.toList, x.g.nm.data.toList]
  else if x.g.kd = 3 then [[110, 97, 109, 101], x.nm.data.toList, x.g.nm.data.toList, x.g.nw.data.toList]
  else [[107, 105, 110, 100], x.nm.data.toList, x.g.nm.data.toList, kindB x.g.c.kd]
def actT (x : AAct) : Bs := joinB 32 (actW x)

/-- No space, no sign that a word is cut at. -/
def plain (l : Bs) : Prop := (32 : UInt8) ∉ l ∧ (61 : UInt8) ∉ l ∧ (58 : UInt8) ∉ l ∧ (33 : UInt8) ∉ l ∧ (94 : UInt8) ∉ l
theorem plain_of {l : Bs} (h : ∀ b ∈ l, (97 ≤ b.toNat ∧ b.toNat ≤ 122) ∨ (48 ≤ b.toNat ∧ b.toNat ≤ 57) ∨ b.toNat = 45 ∨ b.toNat = 39) : plain l := by
  refine ⟨?_, ?_, ?_, ?_, ?_⟩ <;> (intro hb; have := h _ hb; simp at this)
theorem plain_append {l m : Bs} (h : plain l) (h' : plain m) : plain (l ++ m) := by
  obtain ⟨a, b, c, d, e⟩ := h
  obtain ⟨a', b', c', d', e'⟩ := h'
  refine ⟨?_, ?_, ?_, ?_, ?_⟩ <;> simp_all
theorem plain_name {s : ByteArray} (h : nameOk s = true) : plain s.data.toList := by
  refine plain_of fun b hb => Or.inl ?_
  simp only [nameOk, lets, Bool.and_eq_true, List.all_eq_true] at h
  have := h.1 b hb
  simp only [letter, Bool.and_eq_true, decide_eq_true_eq] at this
  omega
theorem plain_kind (k : Int) : plain (kindB k) := by
  unfold kindB kindS
  split
  · exact plain_of (by decide)
  · split
    · exact plain_of (by decide)
    · exact plain_of (by simp)
theorem plain_how (k : Int) : plain (howB k) := by
  unfold howB howS
  split
  · exact plain_of (by decide)
  · split
    · exact plain_of (by decide)
    · split
      · exact plain_of (by decide)
      · exact plain_of (by simp)
theorem byte_dig (u : Nat) (h : u < 10) : 48 ≤ (UInt8.ofNat (48 + u)).toNat ∧ (UInt8.ofNat (48 + u)).toNat ≤ 57 := by
  have e : (UInt8.ofNat (48 + u)).toNat = 48 + u := by simp [UInt8.toNat_ofNat']; omega
  omega
theorem plain_dec {u : Nat} (h : u < 1000) : plain (decL u) := by
  unfold decL
  split
  · refine plain_of fun b hb => ?_
    have := byte_dig u (by omega)
    rw [List.mem_singleton] at hb
    subst hb
    omega
  · split
    · refine plain_of fun b hb => ?_
      have h1 := byte_dig (u / 10) (by omega)
      have h2 := byte_dig (u % 10) (by omega)
      simp only [List.mem_cons, List.not_mem_nil, or_false] at hb
      rcases hb with rfl | rfl <;> omega
    · refine plain_of fun b hb => ?_
      have h0 := byte_dig (u / 10 / 10) (by omega)
      have h1 := byte_dig (u / 10 % 10) (by omega)
      have h2 := byte_dig (u % 10) (by omega)
      simp only [List.mem_cons, List.not_mem_nil, or_false] at hb
      rcases hb with rfl | rfl | rfl <;> omega
theorem plain_itoa {n : Int} (h0 : -999 ≤ n) (h1 : n ≤ 999) : plain (Lib.itoa n) := by
  by_cases h : n < 0
  · rw [itoa_neg h h0]
    exact plain_append (l := [45]) (plain_of (by decide)) (plain_dec (by omega))
  · rw [itoa_pos (by omega) h1]
    exact plain_dec (by omega)
theorem plain_text (k n : Int) (s : ByteArray) : plain (textV k n s) := by
  cases h : valOk k n s
  · rw [textV_no h]
    exact plain_of (by simp)
  · unfold textV
    rw [h]
    rcases ok_kind h with rfl | rfl | rfl
    · show plain [110, 111, 110, 101]
      exact plain_of (by decide)
    · have := ok_num h
      exact plain_itoa this.2.1 this.2.2
    · have := (ok_text h).2
      simp only [textOk, signs, Bool.and_eq_true, List.all_eq_true] at this
      refine plain_of fun b hb => ?_
      simp only [if_true] at hb
      simp at hb
      rcases hb with rfl | hb | rfl
      · simp
      · have := this.1 b (by simpa using hb)
        simp only [sign, Bool.or_eq_true, Bool.and_eq_true, decide_eq_true_eq, beq_iff_eq] at this
        omega
      · simp

theorem plain_mark (b : Bool) (m : UInt8) (h : m = 33 ∨ m = 94) : (32 : UInt8) ∉ (if b then [m] else []) := by
  rcases h with rfl | rfl <;> cases b <;> decide
theorem sp_col {c : ACol} (h : c.ok = true) : (32 : UInt8) ∉ colW c := by
  have hn : nameOk c.nm = true := by
    simp only [ACol.ok, colOk, Bool.and_eq_true] at h
    exact h.1
  unfold colW
  simp only [List.mem_append, List.mem_cons, not_or]
  refine ⟨(plain_name hn).1, by decide, (plain_kind _).1, plain_mark _ _ (Or.inl rfl), plain_mark _ _ (Or.inr rfl), ?_⟩
  split
  · simp
  · simp only [List.mem_cons, not_or]
    exact ⟨by decide, (plain_text _ _ _).1⟩
theorem sp_set {c : ASet} (h : c.ok = true) : (32 : UInt8) ∉ setW c := by
  simp only [ASet.ok, Bool.and_eq_true] at h
  unfold setW
  simp only [List.mem_append, List.mem_cons, not_or]
  exact ⟨(plain_name h.1).1, by decide, (plain_text _ _ _).1⟩
theorem id_le {n : Int} (h : idOk n = true) : 0 ≤ n ∧ n ≤ 60 := by
  simpa [idOk] using h
/-- No word of what is right has a space. -/
theorem words_sp {x : AAct} (h : implDeed x = true) : ∀ w ∈ actW x, (32 : UInt8) ∉ w := by
  unfold implDeed at h
  unfold actW
  by_cases h1 : x.kd = 1
  · simp only [h1, if_true, Bool.and_eq_true, List.all_eq_true] at h
    simp only [h1, if_true, List.mem_cons, List.mem_map]
    rintro w (rfl | rfl | ⟨c, hc, rfl⟩)
    · decide
    · exact (plain_name h.1).1
    · exact sp_col (h.2.2.2 c hc)
  by_cases h2 : x.kd = 2
  · simp only [h2, if_true, Int.reduceEq, if_false, Bool.and_eq_true] at h
    simp only [h2, if_true, Int.reduceEq, if_false, List.mem_cons, List.not_mem_nil, or_false]
    rintro w (rfl | rfl | rfl | rfl | rfl)
    · decide
    · exact (plain_name h.1).1
    · exact (plain_name h.2.1).1
    · exact (plain_name h.2.2.1).1
    · exact (plain_how _).1
  by_cases h3 : x.kd = 3
  · simp only [h3, if_true, Int.reduceEq, if_false, Bool.and_eq_true, List.all_eq_true] at h
    simp only [h3, if_true, Int.reduceEq, if_false, List.mem_cons, List.mem_map]
    rintro w (rfl | rfl | ⟨c, hc, rfl⟩)
    · decide
    · exact (plain_name h.1).1
    · exact sp_set (h.2.2 c hc)
  by_cases h4 : x.kd = 4
  · simp only [h4, if_true, Int.reduceEq, if_false, Bool.and_eq_true, List.all_eq_true] at h
    simp only [h4, if_true, Int.reduceEq, if_false, List.mem_cons, List.mem_map]
    have hi := id_le h.2.1
    rintro w (rfl | rfl | rfl | ⟨c, hc, rfl⟩)
    · decide
    · exact (plain_name h.1).1
    · exact (plain_itoa (by omega) (by omega)).1
    · exact sp_set (h.2.2.2 c hc)
  by_cases h5 : x.kd = 5
  · simp only [h5, if_true, Int.reduceEq, if_false, Bool.and_eq_true] at h
    simp only [h5, if_true, Int.reduceEq, if_false, List.mem_cons, List.not_mem_nil, or_false]
    have hi := id_le h.2
    rintro w (rfl | rfl | rfl)
    · decide
    · exact (plain_name h.1).1
    · exact (plain_itoa (by omega) (by omega)).1
  by_cases h6 : x.kd = 6
  · simp only [h6, Int.reduceEq, if_false, if_true] at h
    simp only [h6, Int.reduceEq, if_false]
    by_cases g1 : x.g.kd = 1
    · simp only [g1, if_true, Bool.and_eq_true] at h
      simp only [g1, if_true, List.mem_cons, List.not_mem_nil, or_false]
      rintro w (rfl | rfl | rfl)
      · decide
      · exact (plain_name h.1).1
      · exact sp_col h.2
    by_cases g2 : x.g.kd = 2
    · simp only [g2, Int.reduceEq, if_false, if_true, Bool.and_eq_true] at h
      simp only [g2, Int.reduceEq, if_false, if_true, List.mem_cons, List.not_mem_nil, or_false]
      rintro w (rfl | rfl | rfl)
      · decide
      · exact (plain_name h.1).1
      · exact (plain_name h.2).1
    by_cases g3 : x.g.kd = 3
    · simp only [g3, Int.reduceEq, if_false, if_true, Bool.and_eq_true] at h
      simp only [g3, Int.reduceEq, if_false, if_true, List.mem_cons, List.not_mem_nil, or_false]
      rintro w (rfl | rfl | rfl | rfl)
      · decide
      · exact (plain_name h.1).1
      · exact (plain_name h.2.1).1
      · exact (plain_name h.2.2).1
    by_cases g4 : x.g.kd = 4
    · simp only [g4, Int.reduceEq, if_false, if_true, Bool.and_eq_true] at h
      simp only [g4, Int.reduceEq, if_false, List.mem_cons, List.not_mem_nil, or_false]
      rintro w (rfl | rfl | rfl | rfl)
      · decide
      · exact (plain_name h.1).1
      · exact (plain_name h.2.1).1
      · exact (plain_kind _).1
    · simp [g1, g2, g3, g4] at h
  · simp [h1, h2, h3, h4, h5, h6] at h
theorem words_ne (x : AAct) : actW x ≠ [] := by
  unfold actW
  repeat' (split; simp)
  simp
/-- The words of what is right are found again in its text. -/
theorem cut_act {x : AAct} (h : implDeed x = true) : cutB 32 (actT x) = actW x := cut_join (words_ne x) (words_sp h)

/-- How long a text is. -/
theorem join_le {c : UInt8} {m : Nat} : ∀ {ws : List Bs}, (∀ w ∈ ws, w.length ≤ m) → (joinB c ws).length ≤ ws.length * (m + 1)
  | [], _ => by simp [joinB]
  | [w], h => by
    have := h w (by simp)
    simp only [joinB, List.length_singleton]
    omega
  | w :: v :: ws, h => by
    have h1 := h w (by simp)
    have h2 := join_le (c := c) (ws := v :: ws) (fun x hx => h x (by simp [hx]))
    have e : (w :: v :: ws).length * (m + 1) = (v :: ws).length * (m + 1) + (m + 1) := by rw [List.length_cons (a := w), Nat.succ_mul]
    rw [e]
    show (w ++ c :: joinB c (v :: ws)).length ≤ _
    rw [List.length_append, List.length_cons]
    omega

end Go.Proofs.YtpcfebekkgfpjaaGreatDoor

/- A region that draws its order, whose operations read and whose callees leave all that S asks: one walk, over the class of worlds that meet S. -/
namespace Go.Proofs.YtpcfebekkgfpjaaGreatDoor
open Go.RowKit

/-- A world that meets S. -/
structure Over (S : World → Prop) where
  W : World
  ok : S W

theorem wp_region_over {P : Program} {id : Nat} {Q : Exit → Act → World → Prop} {a : Act} {w : World} {l : List Oper} {S : World → Prop} (hm : P.follows .mixedOrders = true) (hB : Region.lexB .any l.toArray = true) (hS : S w.drew)
    (h : wpQuiet P l.toArray (fun w' => ∃ p : Over S, w' = p.W) (fun a' => ∀ w', (∃ p : Over S, w' = p.W) → Q .normal a' w') l a) : (Code.region id l.toArray true).wp P Q a w :=
  wp_region_quiet (C := fun w' => ∃ p : Over S, w' = p.W) hm hB ⟨⟨_, hS⟩, rfl⟩ (by simpa using h)

/-- A callee's contract, met in a world of the class. -/
theorem over_call {P : Program} {f : FuncId} {args : Array Value} {S : World → Prop} {p : Over S} {v : Value} {R : World → Prop} (h : Calls P f args p.W fun e w' => e = .returned v ∧ R w') (hR : ∀ w', R w' → S w') :
    Calls P f args p.W fun e w'' => e = .returned v ∧ ∃ q : Over S, w'' = q.W :=
  h.mono fun _ w' ⟨he, hr⟩ => ⟨he, ⟨w', hR w' hr⟩, rfl⟩

end Go.Proofs.YtpcfebekkgfpjaaGreatDoor
