/- A value is read from its text as it was, and what is read from a text has that text: plain facts. -/
import Derived.Test.YtmfilahccefcoaaDoorTx1
import Derived.Test.YtmfilahccefcoaaDoorRd9
import Derived.Test.YtmfilahccefcoaaDoorEq1
namespace Go.Proofs.YtmfilahccefcoaaDoor

theorem ok_none {n : Int} {s : ByteArray} (h : valOk 0 n s = true) : n = 0 ∧ s = ⟨#[]⟩ := by
  unfold valOk at h
  rw [if_pos rfl, Bool.and_eq_true] at h
  exact ⟨by simpa using h.1, bytes_nil (by simpa using h.2)⟩
theorem ok_num {n : Int} {s : ByteArray} (h : valOk 1 n s = true) : s = ⟨#[]⟩ ∧ -999 ≤ n ∧ n ≤ 999 := by
  unfold valOk at h
  rw [if_neg (by decide), if_pos rfl, Bool.and_eq_true] at h
  exact ⟨bytes_nil (by simpa using h.1), by simpa [numOk] using h.2⟩
theorem ok_text {n : Int} {s : ByteArray} (h : valOk 2 n s = true) : n = 0 ∧ textOk s = true := by
  unfold valOk at h
  rw [if_neg (by decide), if_neg (by decide), if_pos rfl, Bool.and_eq_true] at h
  exact ⟨by simpa using h.1, h.2⟩
theorem ok_kind {k n : Int} {s : ByteArray} (h : valOk k n s = true) : k = 0 ∨ k = 1 ∨ k = 2 := by
  unfold valOk at h
  by_cases h0 : k = 0
  · exact Or.inl h0
  · by_cases h1 : k = 1
    · exact Or.inr (Or.inl h1)
    · by_cases h2 : k = 2
      · exact Or.inr (Or.inr h2)
      · rw [if_neg h0, if_neg h1, if_neg h2] at h; cases h

theorem numL_none : numL [110, 111, 110, 101] = (0, false) := by decide
theorem numL_nil : numL [] = (0, false) := by decide

/-- Read from its text a value is as it was. -/
theorem read_text (k n : Int) (s : ByteArray) (h : valOk k n s = true) : readV (textV k n s) = (k, n, s.data.toList, true) := by
  unfold textV
  rw [h]
  rcases ok_kind h with rfl | rfl | rfl
  · obtain ⟨rfl, rfl⟩ := ok_none h
    exact readV_none rfl
  · obtain ⟨rfl, h0, h1⟩ := ok_num h
    show readV (Lib.itoa n) = _
    have hn := numL_itoa h0 h1
    refine readV_num (fun e => ?_) (by rw [not_quoted hn]; rfl) (readNum_itoa h0 h1)
    rw [e, numL_none] at hn
    cases hn
  · obtain ⟨rfl, ht⟩ := ok_text h
    show readV (39 :: (s.data.toList ++ [39])) = _
    obtain ⟨q1, q2⟩ := quoted_of (rfl : 39 :: (s.data.toList ++ [39]) = 39 :: (s.data.toList ++ [39]))
    have := readV_text (l := 39 :: (s.data.toList ++ [39])) (fun e => by cases e) q1 (by rw [q2, bytes_eta]; exact ht)
    rw [q2] at this
    exact this

theorem read_nil : readV [] = (0, 0, [], false) := by
  refine readV_not (fun e => by cases e) (by rw [show quoted [] = false from rfl]; rfl) (readNum_no numL_nil)

theorem read_not (k n : Int) (s : ByteArray) (h : valOk k n s = false) : readV (textV k n s) = (0, 0, [], false) := by
  rw [textV_no h]; exact read_nil

/-- What is read from a text is right, and has that text. -/
theorem text_read {l : List UInt8} {k n : Int} {x : List UInt8} (h : readV l = (k, n, x, true)) : valOk k n ⟨x.toArray⟩ = true ∧ textV k n ⟨x.toArray⟩ = l := by
  by_cases hnone : l = [110, 111, 110, 101]
  · rw [readV_none hnone] at h
    cases h
    have hok : valOk 0 0 ⟨#[]⟩ = true := by simp [valOk]
    have hok' : valOk 0 0 ⟨[].toArray⟩ = true := hok
    refine ⟨hok, ?_⟩
    rw [hnone]
    unfold textV
    rw [hok']
    rfl
  · cases hq : (quoted l && textOk ⟨(inner l).toArray⟩)
    · cases hn : readNum l with
      | none => rw [readV_not hnone hq hn] at h; cases h
      | some m =>
        rw [readV_num hnone hq hn] at h
        cases h
        obtain ⟨e, h0, h1⟩ := readNum_some hn
        have hok : valOk 1 n ⟨#[]⟩ = true := by simp [valOk, numOk, h0, h1]
        refine ⟨hok, ?_⟩
        have hok' : valOk 1 n ⟨[].toArray⟩ = true := hok
        unfold textV
        rw [hok']
        exact e
    · rw [Bool.and_eq_true] at hq
      rw [readV_text hnone hq.1 hq.2] at h
      cases h
      have hok : valOk 2 0 ⟨(inner l).toArray⟩ = true := by unfold valOk; rw [if_neg (by decide), if_neg (by decide), if_pos rfl, hq.2]; rfl
      refine ⟨hok, ?_⟩
      unfold textV
      rw [hok]
      exact quoted_shape hq.1

theorem read_false {l : List UInt8} {k n : Int} {x : List UInt8} (h : readV l = (k, n, x, false)) : k = 0 ∧ n = 0 ∧ x = [] := by
  by_cases hnone : l = [110, 111, 110, 101]
  · rw [readV_none hnone] at h; cases h
  · cases hq : (quoted l && textOk ⟨(inner l).toArray⟩)
    · cases hn : readNum l with
      | none => rw [readV_not hnone hq hn] at h; cases h; exact ⟨rfl, rfl, rfl⟩
      | some m => rw [readV_num hnone hq hn] at h; cases h
    · rw [Bool.and_eq_true] at hq
      rw [readV_text hnone hq.1 hq.2] at h
      cases h

theorem eqV_iff {k1 n1 : Int} {s1 : ByteArray} {k2 n2 : Int} {s2 : ByteArray} : eqV k1 n1 s1 k2 n2 s2 = true ↔ k1 = k2 ∧ n1 = n2 ∧ s1 = s2 := by
  unfold eqV
  simp only [Bool.and_eq_true, beq_iff_eq]
  constructor
  · rintro ⟨⟨a, b⟩, c⟩; exact ⟨a, b, bytes_ext c⟩
  · rintro ⟨rfl, rfl, rfl⟩; exact ⟨⟨rfl, rfl⟩, rfl⟩

/-- Two values of which one is read from a text: they are one just if the texts are. -/
theorem same_iff {k n : Int} {s : ByteArray} {l : List UInt8} {k' n' : Int} {x : List UInt8} (h : readV l = (k', n', x, true)) : eqV k' n' ⟨x.toArray⟩ k n s = (l == textV k n s) := by
  obtain ⟨h1, h2⟩ := text_read h
  rw [Bool.eq_iff_iff, eqV_iff, beq_iff_eq]
  constructor
  · rintro ⟨rfl, rfl, rfl⟩; exact h2.symm
  · intro e
    cases hok : valOk k n s
    · rw [textV_no hok] at e
      rw [e, read_nil] at h
      cases h
    · rw [e, read_text k n s hok] at h
      cases h
      exact ⟨rfl, rfl, bytes_eta s⟩

end Go.Proofs.YtmfilahccefcoaaDoor
