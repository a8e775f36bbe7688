/- impl.ValRead and spec.ValRead answer the same at every text, over the seat's translation. -/
import Derived.Test.YtmfilahccefcoaaDoorRd7
import Derived.Test.YtmfilahccefcoaaDoorRd8
namespace Go.Proofs.YtmfilahccefcoaaDoor
open Go.RowKit

theorem quoted_of {l i : List UInt8} (h : 39 :: (i ++ [39]) = l) : quoted l = true ∧ inner l = i := by
  subst h
  have hp : Lib.hasPrefix (39 :: (i ++ [39])) [39] = true := by simp [Lib.hasPrefix]
  have ht : Lib.trimPrefix (39 :: (i ++ [39])) [39] = i ++ [39] := by unfold Lib.trimPrefix; rw [if_pos hp]; rfl
  have hs : Lib.hasSuffix (i ++ [39]) [39] = true := by unfold Lib.hasSuffix; rw [List.isSuffixOf_iff_suffix]; exact List.suffix_append _ _
  refine ⟨by unfold quoted; rw [ht, hp, hs]; rfl, ?_⟩
  unfold inner
  rw [ht]
  unfold Lib.trimSuffix
  rw [if_pos hs]
  simp
theorem quoted_shape {l : List UInt8} (h : quoted l = true) : 39 :: (inner l ++ [39]) = l := by
  unfold quoted at h
  rw [Bool.and_eq_true] at h
  obtain ⟨hp, hs⟩ := h
  match l, hp, hs with
  | [], hp, _ => simp [Lib.hasPrefix] at hp
  | c :: r, hp, hs =>
    have hc : c = 39 := by simp [Lib.hasPrefix] at hp; exact hp.symm
    subst hc
    have ht : Lib.trimPrefix (39 :: r) [39] = r := by unfold Lib.trimPrefix; rw [if_pos hp]; rfl
    rw [ht] at hs
    unfold inner
    rw [ht]
    unfold Lib.trimSuffix
    rw [if_pos hs]
    unfold Lib.hasSuffix at hs
    rw [List.isSuffixOf_iff_suffix] at hs
    obtain ⟨i, hi⟩ := hs
    rw [← hi]
    simp
theorem numL_quoted {l i : List UInt8} (h : 39 :: i = l) (n : Int) (hn : numL l = (n, true)) : False := by
  subst h
  unfold numL at hn
  rw [if_neg (by simp)] at hn
  have := numS_none hn (by simp [numScan, dig])
  cases this.2
theorem not_quoted {l : List UInt8} {n : Int} (hn : numL l = (n, true)) : quoted l = false := by
  cases hq : quoted l
  · rfl
  · exact (numL_quoted (quoted_shape hq) n hn).elim
theorem numL_zero {l : List UInt8} {n : Int} (h : numL l = (n, false)) : n = 0 := by
  have hz : ∀ (neg : Bool) (s : List UInt8), numS neg s = (n, false) → n = 0 := by
    intro neg s hs
    by_cases hb : s.length = 0 ∨ 17 < s.length ∨ (s.head? = some 48 ∧ (1 < s.length ∨ neg = true))
    · exact (numS_bad hs hb).1.symm
    · cases hc : numScan s 0 with
      | none => exact (numS_none hs hc).1.symm
      | some a => have := (numS_good hs hb hc).2; cases this
  unfold numL at h
  split at h
  · exact hz _ _ h
  · exact hz _ _ h
theorem readNum_no {l : List UInt8} (h : numL l = (0, false)) : readNum l = none := by
  cases hr : readNum l with
  | none => rfl
  | some m => have := numL_of_readNum hr; rw [h] at this; cases this
theorem readNum_no' {l : List UInt8} {n : Int} (h : numL l = (n, true)) (hne : ¬ (Lib.itoa n = l ∧ -999 ≤ n ∧ n ≤ 999)) : readNum l = none := by
  cases hr : readNum l with
  | none => rfl
  | some m =>
    have e := numL_of_readNum hr
    rw [h] at e
    cases e
    exact (hne (readNum_some hr)).elim
theorem zero_no {l : List UInt8} (h : numL l = (0, false)) : ¬ Lib.itoa 0 = l := by
  intro e
  rw [← e, numL_itoa (by omega) (by omega)] at h
  cases h
theorem mid_of (t : ByteArray) (i : List UInt8) (h : 39 :: (i ++ [39]) = t.data.toList) : (t.extract 1 (t.size - 1)).data.toList = i := by
  have hl : t.size = i.length + 2 := by rw [← len_of, ← h]; simp
  have e : (t.extract 1 (t.size - 1)).data.toList = List.take (t.size - 1 - 1) t.data.toList.tail := by simp
  rw [e, ← h, hl]
  simp
theorem bytes_eta (s : ByteArray) : (⟨s.data.toList.toArray⟩ : ByteArray) = s := by cases s; simp

theorem impl_read (t : ByteArray) (w : World) (ht : t.size ≤ maxLen) (htab : Lib.TabIs Tryd.prog w "internal/strconv.uint64pow10" .u64 Lib.pow10Tab) (k n : Int) (x : List UInt8) (b : Bool) (hr : readV t.data.toList = (k, n, x, b)) :
    Calls Tryd.prog 7 #[.string t] w fun e w' => e = .returned (.tuple #[.agg #[.int .i64 k, .int .i64 n, .string ⟨x.toArray⟩], .bool b]) ∧ Below w.heap.size w w' := by
  by_cases hnone : t.data.toList = [110, 111, 110, 101]
  · rw [readV_none hnone] at hr; cases hr
    exact impl_read_none t w hnone
  · cases hq : quoted t.data.toList
    · cases hn : readNum t.data.toList with
      | none => rw [readV_not hnone (by rw [hq]; rfl) hn] at hr; cases hr; exact impl_read_pn t w ht htab hnone hq hn
      | some m => rw [readV_num hnone (by rw [hq]; rfl) hn] at hr; cases hr; exact impl_read_ps t w ht htab hnone hq _ hn
    · cases hk : textOk ⟨(inner t.data.toList).toArray⟩
      · cases hn : readNum t.data.toList with
        | none => rw [readV_not hnone (by rw [hq, hk]; rfl) hn] at hr; cases hr; exact impl_read_qn t w ht htab hnone hq hk hn
        | some m => rw [readV_num hnone (by rw [hq, hk]; rfl) hn] at hr; cases hr; exact impl_read_qs t w ht htab hnone hq hk _ hn
      · rw [readV_text hnone hq hk] at hr; cases hr
        exact impl_read_text t w ht hnone hq hk

theorem spec_read (t : ByteArray) (w : World) (ht : t.size ≤ maxLen) (k n : Int) (x : List UInt8) (b : Bool) (hr : readV t.data.toList = (k, n, x, b)) :
    Calls Tryd.prog 12 #[.string t] w fun e w' => e = .returned (.tuple #[.agg #[.int .i64 k, .int .i64 n, .string ⟨x.toArray⟩], .bool b]) ∧ Below w.heap.size w w' := by
  obtain ⟨m, ok, hN⟩ : ∃ m ok, numL t.data.toList = (m, ok) := ⟨_, _, rfl⟩
  by_cases hnone : t.data.toList = [110, 111, 110, 101]
  · rw [readV_none hnone] at hr; cases hr
    exact spec_read_none t w ht hnone m ok hN
  · cases ok
    · have hm := numL_zero hN
      subst hm
      have hrn := readNum_no hN
      have hz := zero_no hN
      by_cases l2 : (2 : Int) ≤ t.size
      · by_cases l6 : (t.size : Int) ≤ 6
        · cases hk : textOk (t.extract 1 (t.size - 1))
          · have hq : (quoted t.data.toList && textOk ⟨(inner t.data.toList).toArray⟩) = false := by
              cases hq : quoted t.data.toList
              · rfl
              · have e := mid_of t _ (quoted_shape hq)
                rw [← e, bytes_eta, hk]; rfl
            rw [readV_not hnone hq hrn] at hr; cases hr
            exact spec_read_t_bad t w ht hnone hN l2 l6 hk
          · by_cases he : 39 :: ((t.extract 1 (t.size - 1)).data.toList ++ [39]) = t.data.toList
            · obtain ⟨q1, q2⟩ := quoted_of he
              rw [readV_text hnone q1 (by rw [q2, bytes_eta, hk])] at hr; cases hr
              have := spec_read_t_eq t w ht hnone hN l2 l6 hk he
              rw [q2, bytes_eta]
              exact this
            · have hq : quoted t.data.toList = false := by
                cases hq : quoted t.data.toList
                · rfl
                · have e := mid_of t _ (quoted_shape hq)
                  rw [e] at he
                  exact (he (quoted_shape hq)).elim
              rw [readV_not hnone (by rw [hq]; rfl) hrn] at hr; cases hr
              exact spec_read_t_ne t w ht hnone hN l2 l6 hk he
        · have hq : (quoted t.data.toList && textOk ⟨(inner t.data.toList).toArray⟩) = false := by
            cases hq : quoted t.data.toList
            · rfl
            · have e := congrArg List.length (quoted_shape hq)
              rw [len_of] at e
              simp only [List.length_cons, List.length_append, List.length_nil] at e
              rw [big_bad ⟨(inner t.data.toList).toArray⟩ (show ¬ (inner t.data.toList).length ≤ 4 by omega)]; rfl
          rw [readV_not hnone hq hrn] at hr; cases hr
          exact spec_read_long t w ht hnone hN l2 l6 hz
      · have hq : quoted t.data.toList = false := by
          cases hq : quoted t.data.toList
          · rfl
          · have e := congrArg List.length (quoted_shape hq)
            rw [len_of] at e
            simp only [List.length_cons, List.length_append, List.length_nil] at e
            omega
        rw [readV_not hnone (by rw [hq]; rfl) hrn] at hr; cases hr
        exact spec_read_short t w ht hnone hN l2 hz
    · have hq := not_quoted hN
      have hq' : (quoted t.data.toList && textOk ⟨(inner t.data.toList).toArray⟩) = false := by rw [hq]; rfl
      cases hk : numOk m
      · have hrn := readNum_no' hN (fun h => by simp only [numOk, Bool.and_eq_false_iff, decide_eq_false_iff_not] at hk; omega)
        rw [readV_not hnone hq' hrn] at hr; cases hr
        exact spec_read_n_bad t w ht hnone m hN hk
      · by_cases he : Lib.itoa m = t.data.toList
        · have hb : -999 ≤ m ∧ m ≤ 999 := by simpa [numOk] using hk
          rw [readV_num hnone hq' (readNum_iff.2 ⟨he, hb⟩)] at hr; cases hr
          exact spec_read_n_eq t w ht hnone _ hN hk he
        · have hrn := readNum_no' hN (fun h => he h.1)
          rw [readV_not hnone hq' hrn] at hr; cases hr
          exact spec_read_n_ne t w ht hnone m hN hk he

end Go.Proofs.YtmfilahccefcoaaDoor
