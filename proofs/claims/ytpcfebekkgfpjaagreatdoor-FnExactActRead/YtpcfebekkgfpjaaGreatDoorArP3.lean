/- How long the text of what is done is, and what is none: plain facts, no program in them. -/
import Derived.Test.YtpcfebekkgfpjaaGreatDoorG18
namespace Go.Proofs.YtpcfebekkgfpjaaGreatDoor
open Go.RowKit

theorem cutB_le (c : UInt8) : ∀ (l w : Bs), w ∈ cutB c l → w.length ≤ l.length
  | [], w, h => by
    simp [cutB] at h
    subst h
    exact Nat.le_refl _
  | b :: r, w, h => by
    rw [cutB_cons] at h
    split at h
    · rcases List.mem_cons.1 h with rfl | h
      · exact Nat.zero_le _
      · have := cutB_le c r w h
        rw [List.length_cons]
        omega
    · cases hc : cutB c r with
      | nil => exact absurd hc (cutB_ne c r)
      | cons v vs =>
        rw [hc] at h
        have hv := cutB_le c r v (by rw [hc]; simp)
        rcases List.mem_cons.1 h with rfl | h
        · simpa using hv
        · have := cutB_le c r w (by rw [hc]; simp [h])
          rw [List.length_cons]
          omega
theorem itoa_len {n : Int} (h0 : 0 ≤ n) (h1 : n ≤ 60) : (Lib.itoa n).length ≤ 3 := by
  rw [itoa_pos h0 (by omega)]
  unfold decL
  split <;> (try split) <;> simp
theorem name_len {s : ByteArray} (h : nameOk s = true) : s.data.toList.length ≤ 20 := by
  have := name_le h
  simp
  omega
theorem kind_len (k : Int) : (kindB k).length ≤ 4 := by
  have := kindS_le k
  unfold kindB
  simpa using this
theorem how_len (k : Int) : (howB k).length ≤ 20 := by
  unfold howB howS
  split
  · decide
  · split
    · decide
    · split <;> decide
theorem col_len {c : ACol} (h : c.ok = true) : (colW c).length ≤ 20 := by
  have hn := name_le (ok_parts h).1
  have hk := kind_len c.kd
  have ht := textV_le c.k c.n c.s (by have := val_le (ok_parts h).2.2; omega)
  unfold colW
  simp only [List.length_append, List.length_cons]
  have e1 : (if c.nd then [(33 : UInt8)] else []).length ≤ 1 := by split <;> simp
  have e2 : (if c.oc then [(94 : UInt8)] else []).length ≤ 1 := by split <;> simp
  have e3 : (if c.k = 0 then [] else 61 :: textV c.k c.n c.s).length ≤ 8 := by
    split
    · simp
    · rw [List.length_cons]
      omega
  have e4 : c.nm.data.toList.length = c.nm.size := by simp
  omega
theorem set_len {c : ASet} (h : c.ok = true) : (setW c).length ≤ 20 := by
  simp only [ASet.ok, Bool.and_eq_true] at h
  have hn := name_le h.1
  have ht := textV_le c.k c.n c.s (by have := val_le h.2; omega)
  unfold setW
  simp only [List.length_append, List.length_cons]
  have e4 : c.nm.data.toList.length = c.nm.size := by simp
  omega

/-- No word of what is right is long, and there are few. -/
theorem words_le {x : AAct} (h : implDeed x = true) : (actW x).length ≤ 8 ∧ ∀ w ∈ actW x, w.length ≤ 20 := by
  unfold implDeed at h
  unfold actW
  by_cases h1 : x.kd = 1
  · simp only [h1, if_true, Bool.and_eq_true, List.all_eq_true, decide_eq_true_eq] at h
    simp only [h1, if_true, List.mem_cons, List.mem_map]
    refine ⟨by simp; omega, ?_⟩
    rintro w (rfl | rfl | ⟨c, hc, rfl⟩)
    · decide
    · exact name_len h.1
    · exact col_len (h.2.2.2 c hc)
  by_cases h2 : x.kd = 2
  · simp only [h2, if_true, Int.reduceEq, if_false, Bool.and_eq_true] at h
    simp only [h2, if_true, Int.reduceEq, if_false, List.mem_cons, List.not_mem_nil, or_false]
    refine ⟨by simp, ?_⟩
    rintro w (rfl | rfl | rfl | rfl | rfl)
    · decide
    · exact name_len h.1
    · exact name_len h.2.1
    · exact name_len h.2.2.1
    · exact how_len _
  by_cases h3 : x.kd = 3
  · simp only [h3, if_true, Int.reduceEq, if_false, Bool.and_eq_true, List.all_eq_true, decide_eq_true_eq] at h
    simp only [h3, if_true, Int.reduceEq, if_false, List.mem_cons, List.mem_map]
    refine ⟨by simp; omega, ?_⟩
    rintro w (rfl | rfl | ⟨c, hc, rfl⟩)
    · decide
    · exact name_len h.1
    · exact set_len (h.2.2 c hc)
  by_cases h4 : x.kd = 4
  · simp only [h4, if_true, Int.reduceEq, if_false, Bool.and_eq_true, List.all_eq_true, decide_eq_true_eq] at h
    simp only [h4, if_true, Int.reduceEq, if_false, List.mem_cons, List.mem_map]
    have hi := id_le h.2.1
    refine ⟨by simp; omega, ?_⟩
    rintro w (rfl | rfl | rfl | ⟨c, hc, rfl⟩)
    · decide
    · exact name_len h.1
    · exact Nat.le_trans (itoa_len hi.1 hi.2) (by decide)
    · exact set_len (h.2.2.2 c hc)
  by_cases h5 : x.kd = 5
  · simp only [h5, if_true, Int.reduceEq, if_false, Bool.and_eq_true] at h
    simp only [h5, if_true, Int.reduceEq, if_false, List.mem_cons, List.not_mem_nil, or_false]
    have hi := id_le h.2
    refine ⟨by simp, ?_⟩
    rintro w (rfl | rfl | rfl)
    · decide
    · exact name_len h.1
    · exact Nat.le_trans (itoa_len hi.1 hi.2) (by decide)
  by_cases h6 : x.kd = 6
  · simp only [h6, Int.reduceEq, if_false, if_true] at h
    simp only [h6, Int.reduceEq, if_false]
    by_cases g1 : x.g.kd = 1
    · simp only [g1, if_true, Bool.and_eq_true] at h
      simp only [g1, if_true, List.mem_cons, List.not_mem_nil, or_false]
      refine ⟨by simp, ?_⟩
      rintro w (rfl | rfl | rfl)
      · decide
      · exact name_len h.1
      · exact col_len h.2
    by_cases g2 : x.g.kd = 2
    · simp only [g2, Int.reduceEq, if_false, if_true, Bool.and_eq_true] at h
      simp only [g2, Int.reduceEq, if_false, if_true, List.mem_cons, List.not_mem_nil, or_false]
      refine ⟨by simp, ?_⟩
      rintro w (rfl | rfl | rfl)
      · decide
      · exact name_len h.1
      · exact name_len h.2
    by_cases g3 : x.g.kd = 3
    · simp only [g3, Int.reduceEq, if_false, if_true, Bool.and_eq_true] at h
      simp only [g3, Int.reduceEq, if_false, if_true, List.mem_cons, List.not_mem_nil, or_false]
      refine ⟨by simp, ?_⟩
      rintro w (rfl | rfl | rfl | rfl)
      · decide
      · exact name_len h.1
      · exact name_len h.2.1
      · exact name_len h.2.2
    by_cases g4 : x.g.kd = 4
    · simp only [g4, Int.reduceEq, if_false, if_true, Bool.and_eq_true] at h
      simp only [g4, Int.reduceEq, if_false, List.mem_cons, List.not_mem_nil, or_false]
      refine ⟨by simp, ?_⟩
      rintro w (rfl | rfl | rfl | rfl)
      · decide
      · exact name_len h.1
      · exact name_len h.2.1
      · exact Nat.le_trans (kind_len _) (by decide)
    · simp [g1, g2, g3, g4] at h
  · simp [h1, h2, h3, h4, h5, h6] at h
theorem text_le {x : AAct} (h : implDeed x = true) : (actT x).length ≤ 168 := by
  have h1 := join_le (c := 32) (words_le h).2
  have h2 : (actW x).length * (20 + 1) ≤ 8 * 21 := Nat.mul_le_mul (words_le h).1 (Nat.le_refl _)
  unfold actT
  omega
theorem words_two {x : AAct} : ∃ v n r, actW x = v :: n :: r := by
  unfold actW
  repeat' (first | exact ⟨_, _, _, rfl⟩ | split)

theorem deed_kind {y : AAct} (h : implDeed y = true) : implDeed (deedAct y) = true ∧ actW (deedAct y) = actW y := by
  unfold implDeed at h
  by_cases h1 : y.kd = 1
  · rw [if_pos h1] at h
    have e : deedAct y = ⟨1, y.nm, 0, [], y.cols, chg0, lnk0⟩ := by unfold deedAct; rw [if_pos h1]
    rw [e]
    exact ⟨h, by unfold actW; rw [if_pos h1, if_pos rfl]⟩
  rw [if_neg h1] at h
  by_cases h2 : y.kd = 2
  · rw [if_pos h2] at h
    have e : deedAct y = ⟨2, ⟨#[]⟩, 0, [], [], chg0, y.l⟩ := by unfold deedAct; rw [if_neg h1, if_pos h2]
    rw [e]
    exact ⟨h, by unfold actW; rw [if_neg h1, if_pos h2]; rfl⟩
  rw [if_neg h2] at h
  by_cases h3 : y.kd = 3
  · rw [if_pos h3] at h
    have e : deedAct y = ⟨3, y.nm, 0, y.sets, [], chg0, lnk0⟩ := by unfold deedAct; rw [if_neg h1, if_neg h2, if_pos h3]
    rw [e]
    exact ⟨h, by unfold actW; rw [if_neg h1, if_neg h2, if_pos h3]; rfl⟩
  rw [if_neg h3] at h
  by_cases h4 : y.kd = 4
  · rw [if_pos h4] at h
    have e : deedAct y = ⟨4, y.nm, y.id, y.sets, [], chg0, lnk0⟩ := by unfold deedAct; rw [if_neg h1, if_neg h2, if_neg h3, if_pos h4]
    rw [e]
    exact ⟨h, by unfold actW; rw [if_neg h1, if_neg h2, if_neg h3, if_pos h4]; rfl⟩
  rw [if_neg h4] at h
  by_cases h5 : y.kd = 5
  · rw [if_pos h5] at h
    have e : deedAct y = ⟨5, y.nm, y.id, [], [], chg0, lnk0⟩ := by unfold deedAct; rw [if_neg h1, if_neg h2, if_neg h3, if_neg h4, if_pos h5]
    rw [e]
    exact ⟨h, by unfold actW; rw [if_neg h1, if_neg h2, if_neg h3, if_neg h4, if_pos h5]; rfl⟩
  rw [if_neg h5] at h
  by_cases h6 : y.kd = 6
  · rw [if_pos h6] at h
    by_cases g1 : y.g.kd = 1
    · rw [if_pos g1] at h
      have e : deedAct y = ⟨6, y.nm, 0, [], [], ⟨1, ⟨#[]⟩, ⟨#[]⟩, y.g.c⟩, lnk0⟩ := by unfold deedAct; rw [if_neg h1, if_neg h2, if_neg h3, if_neg h4, if_neg h5, if_pos g1]
      rw [e]
      exact ⟨h, by unfold actW; rw [if_neg h1, if_neg h2, if_neg h3, if_neg h4, if_neg h5, if_pos g1]; rfl⟩
    rw [if_neg g1] at h
    by_cases g2 : y.g.kd = 2
    · rw [if_pos g2] at h
      have e : deedAct y = ⟨6, y.nm, 0, [], [], ⟨2, y.g.nm, ⟨#[]⟩, colK 0⟩, lnk0⟩ := by unfold deedAct; rw [if_neg h1, if_neg h2, if_neg h3, if_neg h4, if_neg h5, if_neg g1, if_pos g2]
      rw [e]
      exact ⟨h, by unfold actW; rw [if_neg h1, if_neg h2, if_neg h3, if_neg h4, if_neg h5, if_neg g1, if_pos g2]; rfl⟩
    rw [if_neg g2] at h
    by_cases g3 : y.g.kd = 3
    · rw [if_pos g3] at h
      have e : deedAct y = ⟨6, y.nm, 0, [], [], ⟨3, y.g.nm, y.g.nw, colK 0⟩, lnk0⟩ := by unfold deedAct; rw [if_neg h1, if_neg h2, if_neg h3, if_neg h4, if_neg h5, if_neg g1, if_neg g2, if_pos g3]
      rw [e]
      exact ⟨h, by unfold actW; rw [if_neg h1, if_neg h2, if_neg h3, if_neg h4, if_neg h5, if_neg g1, if_neg g2, if_pos g3]; rfl⟩
    rw [if_neg g3] at h
    by_cases g4 : y.g.kd = 4
    · rw [if_pos g4] at h
      have e : deedAct y = ⟨6, y.nm, 0, [], [], ⟨4, y.g.nm, ⟨#[]⟩, colK y.g.c.kd⟩, lnk0⟩ := by unfold deedAct; rw [if_neg h1, if_neg h2, if_neg h3, if_neg h4, if_neg h5, if_neg g1, if_neg g2, if_neg g3]
      rw [e]
      exact ⟨h, by unfold actW; rw [if_neg h1, if_neg h2, if_neg h3, if_neg h4, if_neg h5, if_neg g1, if_neg g2, if_neg g3]; rfl⟩
    · rw [if_neg g4] at h
      cases h
  · rw [if_neg h6] at h
    cases h

/-- What was read and is not right, or is written otherwise, is nothing that is right. -/
theorem act_no {x : AAct} {W : List Bs} {t : Bs} (hR : ActRd W x) (hW : cutB 32 t = W) (h : implDeed x = false ∨ actT x ≠ t) : ∀ y, implDeed y = true → actT y ≠ t := fun y hy e => by
  have hw : actW y = W := by rw [← cut_act hy, e, hW]
  have hx := hR y hy hw
  have hd := deed_kind hy
  rcases h with h | h
  · rw [hx, hd.1] at h
    cases h
  · apply h
    unfold actT at e ⊢
    rw [hx, hd.2, e]
theorem few_no {t : Bs} {w : Bs} (hW : cutB 32 t = [w]) : ∀ y, implDeed y = true → actT y ≠ t := fun y hy e => by
  have hw : actW y = [w] := by rw [← cut_act hy, e, hW]
  obtain ⟨v, n, r, e2⟩ := words_two (x := y)
  rw [hw] at e2
  cases e2

theorem deed_few {y : AAct} (h : implDeed y = true) : (deedAct y).sets.length ≤ 5 ∧ (deedAct y).cols.length ≤ 5 := by
  unfold implDeed at h
  unfold deedAct
  by_cases h1 : y.kd = 1
  · simp only [h1, if_true, Bool.and_eq_true, decide_eq_true_eq] at h ⊢
    exact ⟨Nat.zero_le _, h.2.2.1⟩
  rw [if_neg h1] at h ⊢
  by_cases h2 : y.kd = 2
  · rw [if_pos h2]
    exact ⟨Nat.zero_le _, Nat.zero_le _⟩
  rw [if_neg h2] at h ⊢
  by_cases h3 : y.kd = 3
  · simp only [h3, if_true, Bool.and_eq_true, decide_eq_true_eq] at h ⊢
    exact ⟨h.2.1, Nat.zero_le _⟩
  rw [if_neg h3] at h ⊢
  by_cases h4 : y.kd = 4
  · simp only [h4, if_true, Bool.and_eq_true, decide_eq_true_eq] at h ⊢
    exact ⟨h.2.2.1, Nat.zero_le _⟩
  rw [if_neg h4] at h ⊢
  split
  · exact ⟨Nat.zero_le _, Nat.zero_le _⟩
  · split
    · exact ⟨Nat.zero_le _, Nat.zero_le _⟩
    · split
      · exact ⟨Nat.zero_le _, Nat.zero_le _⟩
      · split <;> exact ⟨Nat.zero_le _, Nat.zero_le _⟩

/-- What is done, as a value: its two lists are the call's own. -/
def ActV (w W : World) (x : AAct) (v : Value) : Prop :=
  ∃ u c, v = .agg #[.int .i64 x.kd, .string x.nm, .int .i64 x.id, u, c, .int .i64 x.g.kd, .string x.g.nm, .string x.g.nw, .string x.g.c.nm, .int .i64 x.g.c.kd, .bool x.g.c.nd, .bool x.g.c.oc, .int .i64 x.g.c.k, .int .i64 x.g.c.n, .string x.g.c.s, .string x.l.fr, .string x.l.co, .string x.l.tt, .int .i64 x.l.hw] ∧
    W.ownsRow w.heap.size 102 4 u x.sets.length (x.sets.flatMap ASet.cells) ∧ W.ownsRow w.heap.size 28 7 c x.cols.length (x.cols.flatMap ACol.cells) ∧ Below w.heap.size w W
/-- Nothing. -/
abbrev act0 : AAct := ⟨0, ⟨#[]⟩, 0, [], [], chg0, lnk0⟩
/-- What is read of a text: what is right and written so, or nothing. -/
def ActIs (t : Bs) (x : AAct) (b : Bool) : Prop := (b = true ∧ implDeed x = true ∧ deedAct x = x ∧ actT x = t ∧ ∀ y, implDeed y = true → actT y = t → x = deedAct y) ∨ (b = false ∧ x = act0 ∧ ∀ y, implDeed y = true → actT y ≠ t)
theorem act_is {x : AAct} {W : List Bs} {t : Bs} (hR : ActRd W x) (hW : cutB 32 t = W) (h1 : implDeed x = true) (h2 : deedAct x = x) (h3 : actT x = t) : ActIs t x true :=
  Or.inl ⟨rfl, h1, h2, h3, fun y hy e => hR y hy (by rw [← cut_act hy, e, hW])⟩
/-- Two readings of one text are one. -/
theorem act_one {x y : AAct} {t : Bs} {a b : Bool} (hx : ActIs t x a) (hy : ActIs t y b) : x = y ∧ a = b := by
  rcases hx with ⟨rfl, h1, _, h3, h4⟩ | ⟨rfl, rfl, h1⟩ <;> rcases hy with ⟨rfl, g1, g2, g3, _⟩ | ⟨rfl, rfl, g1⟩
  · exact ⟨(h4 y g1 g3).trans g2, rfl⟩
  · exact absurd h3 (g1 x h1)
  · exact absurd g3 (h1 y g1)
  · exact ⟨rfl, rfl⟩

end Go.Proofs.YtpcfebekkgfpjaaGreatDoor
