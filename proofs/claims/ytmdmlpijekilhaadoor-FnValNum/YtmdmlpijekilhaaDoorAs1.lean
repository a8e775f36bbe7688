/- What a value is as another kind, and the methods of impl.value that say it, over the seat's translation. -/
import Derived.Test.YtmdmlpijekilhaaDoorTx3
namespace Go.Proofs.YtmdmlpijekilhaaDoor
open Go.RowKit

theorem dec_scan : ∀ (l : List UInt8) (a b : Nat), 0 < a → numScan l a = some b → Lib.decDigits b = Lib.decDigits a ++ l
  | [], a, b, _, h => by simp [numScan] at h; subst h; simp
  | c :: r, a, b, ha, h => by
    unfold numScan at h
    by_cases hd : dig c = true
    · rw [if_pos hd] at h
      have hb : 48 ≤ c.toNat ∧ c.toNat ≤ 57 := by simpa [dig] using hd
      have e := dec_scan r (a * 10 + (c.toNat - 48)) b (by omega) h
      rw [e, dec_step (a * 10 + (c.toNat - 48)) (by omega)]
      have e1 : (a * 10 + (c.toNat - 48)) / 10 = a := by omega
      have e2 : 48 + (a * 10 + (c.toNat - 48)) % 10 = c.toNat := by omega
      rw [e1, e2, UInt8.ofNat_toNat, List.append_assoc]
      rfl
    · rw [if_neg hd] at h; cases h

theorem dec_of_scan {l : List UInt8} {b : Nat} (h0 : ¬ l.length = 0) (h1 : ¬ (l.head? = some 48 ∧ 1 < l.length)) (h : numScan l 0 = some b) : Lib.decDigits b = l ∧ (b = 0 → l.head? = some 48) := by
  match l, h0, h1, h with
  | [], h0, _, _ => exact (h0 rfl).elim
  | c :: r, _, h1, h =>
    unfold numScan at h
    by_cases hd : dig c = true
    · rw [if_pos hd] at h
      have hb : 48 ≤ c.toNat ∧ c.toNat ≤ 57 := by simpa [dig] using hd
      by_cases hz : c = 48
      · subst hz
        have hr : r = [] := by
          cases r with
          | nil => rfl
          | cons a t => exact (h1 ⟨rfl, by simp⟩).elim
        subst hr
        simp [numScan] at h
        subst h
        exact ⟨by rw [dec_small 0 (by omega)]; rfl, fun _ => rfl⟩
      · have hp : 0 < 0 * 10 + (c.toNat - 48) := by
          rcases Nat.lt_or_ge 48 c.toNat with h4 | h4
          · omega
          · exact (hz (UInt8.toNat_inj.1 (show c.toNat = 48 by omega))).elim
        have e := dec_scan r _ b hp h
        have e3 : Lib.decDigits (0 * 10 + (c.toNat - 48)) = [c] := by
          rw [dec_small _ (by omega), show 48 + (0 * 10 + (c.toNat - 48)) = c.toNat by omega, UInt8.ofNat_toNat]
        rw [e3] at e
        refine ⟨e, fun hb0 => ?_⟩
        subst hb0
        rw [dec_small 0 (by omega)] at e
        simp at e
        exact (hz (by rw [← e.1])).elim
    · rw [if_neg hd] at h; cases h

/-- Digits that the specification reads are as the number is written. -/
theorem itoa_numL {t : List UInt8} {n : Int} (h : numL t = (n, true)) : Lib.itoa n = t := by
  unfold numL at h
  by_cases hm : t.head? = some 45
  · rw [if_pos hm] at h
    unfold numS at h
    by_cases hb : t.tail.length = 0 ∨ 17 < t.tail.length ∨ (t.tail.head? = some 48 ∧ (1 < t.tail.length ∨ true = true))
    · rw [if_pos hb] at h; cases h
    · rw [if_neg hb] at h
      cases hs : numScan t.tail 0 with
      | none => rw [hs] at h; cases h
      | some a =>
        rw [hs] at h
        simp only [if_true, Prod.mk.injEq, and_true] at h
        simp only [not_or, or_true, and_true] at hb
        obtain ⟨e, hz⟩ := dec_of_scan hb.1 (fun hh => hb.2.2 hh.1) hs
        have ha : ¬ a = 0 := fun h0 => hb.2.2 (hz h0)
        have hn : n < 0 := by omega
        unfold Lib.itoa
        rw [if_pos hn, show n.natAbs = a by omega, e]
        cases t with
        | nil => cases hm
        | cons c r => simp at hm; subst hm; rfl
  · rw [if_neg hm] at h
    unfold numS at h
    by_cases hb : t.length = 0 ∨ 17 < t.length ∨ (t.head? = some 48 ∧ (1 < t.length ∨ false = true))
    · rw [if_pos hb] at h; cases h
    · rw [if_neg hb] at h
      cases hs : numScan t 0 with
      | none => rw [hs] at h; cases h
      | some a =>
        rw [hs] at h
        simp at h
        simp only [not_or] at hb
        obtain ⟨e, _⟩ := dec_of_scan hb.1 (fun hh => hb.2.2 ⟨hh.1, Or.inl hh.2⟩) hs
        unfold Lib.itoa
        rw [if_neg (by omega), show n.toNat = a by omega, e]

theorem readNum_numL {t : List UInt8} {n : Int} {b : Bool} (h : numL t = (n, b)) : readNum t = if b && numOk n then some n else none := by
  cases b
  · have := numL_zero h
    subst this
    rw [readNum_no h]; rfl
  · cases hk : numOk n
    · rw [readNum_no' h (fun hh => by simp [numOk] at hk; omega)]; rfl
    · have hb : -999 ≤ n ∧ n ≤ 999 := by simpa [numOk] using hk
      rw [readNum_iff.2 ⟨itoa_numL h, hb⟩]; rfl

/-- A value as another kind. -/
def asV (k n : Int) (s : ByteArray) (kind : Int) : Int × Int × List UInt8 :=
  if valOk k n s then
    if kind = 1 then (if k = 1 then (1, n, []) else if k = 2 then (match readNum s.data.toList with | some m => (1, m, []) | none => (0, 0, [])) else (0, 0, []))
    else if kind = 2 then (if k = 1 then (2, 0, Lib.itoa n) else if k = 2 then (2, 0, s.data.toList) else (0, 0, []))
    else (0, 0, [])
  else (0, 0, [])

theorem m_num_asNum (n : Int) (w : World) : (method 202 51 (.int .i64 n) "loop.example/custumal/impl.asNum").run Tryd.prog w = .ok (76, .int .i64 n) w := by kernel_rfl
theorem m_text_asNum (s : ByteArray) (w : World) : (method 202 46 (.string s) "loop.example/custumal/impl.asNum").run Tryd.prog w = .ok (73, .string s) w := by kernel_rfl
theorem m_none_asNum (w : World) : (method 202 66 (.agg #[]) "loop.example/custumal/impl.asNum").run Tryd.prog w = .ok (80, .agg #[]) w := by kernel_rfl
theorem m_num_asText (n : Int) (w : World) : (method 202 51 (.int .i64 n) "loop.example/custumal/impl.asText").run Tryd.prog w = .ok (77, .int .i64 n) w := by kernel_rfl
theorem m_text_asText (s : ByteArray) (w : World) : (method 202 46 (.string s) "loop.example/custumal/impl.asText").run Tryd.prog w = .ok (74, .string s) w := by kernel_rfl
theorem m_none_asText (w : World) : (method 202 66 (.agg #[]) "loop.example/custumal/impl.asText").run Tryd.prog w = .ok (81, .agg #[]) w := by kernel_rfl

theorem none_asNum (w : World) : Calls Tryd.prog 80 #[.agg #[]] w fun e w' => e = .returned (.agg #[.int .i64 0, .int .i64 0, .string ⟨#[]⟩]) ∧ Below w.heap.size w w' := by
  go_enter Tryd.func80, Tryd.ntmps80
  go_wp2
  exact bodyPost_ret (v := .agg #[.int .i64 0, .int .i64 0, .string ⟨#[]⟩]) (by simp [results, Tryd.results80, go_sem]) rfl ⟨rfl, (((Below.refl _ _).alloc (Nat.le_refl _) _).alloc (by simp) _)⟩

theorem none_asText (w : World) : Calls Tryd.prog 81 #[.agg #[]] w fun e w' => e = .returned (.agg #[.int .i64 0, .int .i64 0, .string ⟨#[]⟩]) ∧ Below w.heap.size w w' := by
  go_enter Tryd.func81, Tryd.ntmps81
  go_wp2
  exact bodyPost_ret (v := .agg #[.int .i64 0, .int .i64 0, .string ⟨#[]⟩]) (by simp [results, Tryd.results81, go_sem]) rfl ⟨rfl, (((Below.refl _ _).alloc (Nat.le_refl _) _).alloc (by simp) _)⟩

theorem num_asNum (n : Int) (w : World) : Calls Tryd.prog 76 #[.int .i64 n] w fun e w' => e = .returned (.agg #[.int .i64 1, .int .i64 n, .string ⟨#[]⟩]) ∧ Below w.heap.size w w' := by
  go_enter Tryd.func76, Tryd.ntmps76
  go_wp2_with fail
  refine (num_val _ _).mono ?_
  rintro e w1 ⟨rfl, hb1⟩
  obtain ⟨hc1, hf1⟩ := bcell hb1
  have hz1 : w.heap.size < w1.heap.size := by have := hb1.size; simp at this; omega
  go_wp2_with fail
  exact bodyPost_ret (v := .agg #[.int .i64 1, .int .i64 n, .string ⟨#[]⟩]) (by simp [results, Tryd.results76, go_sem, hc1]) rfl ⟨rfl, (((((Below.refl _ _).alloc (Nat.le_refl _) _).trans (hb1.mono (by simp))).setCell (Nat.le_refl _) _).setCell (Nat.le_refl _) _).setCell (Nat.le_refl _) _⟩

theorem text_asText (s : ByteArray) (w : World) : Calls Tryd.prog 74 #[.string s] w fun e w' => e = .returned (.agg #[.int .i64 2, .int .i64 0, .string s]) ∧ Below w.heap.size w w' := by
  go_enter Tryd.func74, Tryd.ntmps74
  go_wp2_with fail
  refine (text_val _ _).mono ?_
  rintro e w1 ⟨rfl, hb1⟩
  obtain ⟨hc1, hf1⟩ := bcell hb1
  have hz1 : w.heap.size < w1.heap.size := by have := hb1.size; simp at this; omega
  go_wp2_with fail
  exact bodyPost_ret (v := .agg #[.int .i64 2, .int .i64 0, .string s]) (by simp [results, Tryd.results74, go_sem, hc1]) rfl ⟨rfl, (((((Below.refl _ _).alloc (Nat.le_refl _) _).trans (hb1.mono (by simp))).setCell (Nat.le_refl _) _).setCell (Nat.le_refl _) _).setCell (Nat.le_refl _) _⟩

theorem num_asText (n : Int) (w : World) (h0 : -999 ≤ n) (h1 : n ≤ 999) (htab : Lib.TabIs Tryd.prog w "internal/strconv.uint64pow10" .u64 Lib.pow10Tab) : Calls Tryd.prog 77 #[.int .i64 n] w fun e w' => e = .returned (.agg #[.int .i64 2, .int .i64 0, .string ⟨(Lib.itoa n).toArray⟩]) ∧ Below w.heap.size w w' := by
  have Htab : Hid (Lib.TabIs Tryd.prog (w.alloc (.cells #[.int .i64 0, .int .i64 0, .string ⟨#[]⟩] 24)) "internal/strconv.uint64pow10" .u64 Lib.pow10Tab) := Joins.tab_stays Tab.global htab ((Below.refl _ _).alloc (Nat.le_refl _) _) (Nat.le_refl _)
  clear htab
  go_enter Tryd.func77, Tryd.ntmps77
  go_wp2_with fail
  refine (num_text _ _ h0 h1 Htab.out).mono ?_
  rintro e w1 ⟨rfl, hb1⟩
  obtain ⟨hc1, hf1⟩ := bcell hb1
  have hz1 : w.heap.size < w1.heap.size := by have := hb1.size; simp at this; omega
  go_wp2_with fail
  refine (text_val _ _).mono ?_
  rintro e w2 ⟨rfl, hb2⟩
  obtain ⟨hc2, hf2⟩ := bcell hb2
  have hz2 : w.heap.size < w2.heap.size := by have := hb2.size; omega
  go_wp2_with fail
  exact bodyPost_ret (v := .agg #[.int .i64 2, .int .i64 0, .string ⟨(Lib.itoa n).toArray⟩]) (by simp [results, Tryd.results77, go_sem, hc1, hz1, hc2]) rfl ⟨rfl, ((((((Below.refl _ _).alloc (Nat.le_refl _) _).trans (hb1.mono (by simp))).trans (hb2.mono (by omega))).setCell (Nat.le_refl _) _).setCell (Nat.le_refl _) _).setCell (Nat.le_refl _) _⟩

theorem text_asNum_some (s : ByteArray) (m : Int) (w : World) (hs : s.size ≤ maxLen) (hr : readNum s.data.toList = some m) (htab : Lib.TabIs Tryd.prog w "internal/strconv.uint64pow10" .u64 Lib.pow10Tab) : Calls Tryd.prog 73 #[.string s] w fun e w' => e = .returned (.agg #[.int .i64 1, .int .i64 m, .string ⟨#[]⟩]) ∧ Below w.heap.size w w' := by
  have Htab : Hid (Lib.TabIs Tryd.prog (w.alloc (.cells #[.int .i64 0, .int .i64 0, .string ⟨#[]⟩] 24)) "internal/strconv.uint64pow10" .u64 Lib.pow10Tab) := Joins.tab_stays Tab.global htab ((Below.refl _ _).alloc (Nat.le_refl _) _) (Nat.le_refl _)
  clear htab
  have Hr : Hid (readNum s.data.toList = some m) := hr
  clear hr
  go_enter Tryd.func73, Tryd.ntmps73
  go_wp2_with fail
  refine (read_number _ _ hs Htab.out _ Hr.out).mono ?_
  rintro e w1 ⟨rfl, hb1⟩
  obtain ⟨hc1, hf1⟩ := bcell hb1
  have hz1 : w.heap.size < w1.heap.size := by have := hb1.size; simp at this; omega
  go_wp2_with fail
  refine (num_val _ _).mono ?_
  rintro e w2 ⟨rfl, hb2⟩
  obtain ⟨hc2, hf2⟩ := bcell hb2
  have hz2 : w.heap.size < w2.heap.size := by have := hb2.size; omega
  go_wp2_with fail
  exact bodyPost_ret (v := .agg #[.int .i64 1, .int .i64 m, .string ⟨#[]⟩]) (by simp [results, Tryd.results73, go_sem, hc1, hz1, hc2]) rfl ⟨rfl, ((((((Below.refl _ _).alloc (Nat.le_refl _) _).trans (hb1.mono (by simp))).trans (hb2.mono (by omega))).setCell (Nat.le_refl _) _).setCell (Nat.le_refl _) _).setCell (Nat.le_refl _) _⟩

theorem text_asNum_none (s : ByteArray) (w : World) (hs : s.size ≤ maxLen) (hr : readNum s.data.toList = none) (htab : Lib.TabIs Tryd.prog w "internal/strconv.uint64pow10" .u64 Lib.pow10Tab) : Calls Tryd.prog 73 #[.string s] w fun e w' => e = .returned (.agg #[.int .i64 0, .int .i64 0, .string ⟨#[]⟩]) ∧ Below w.heap.size w w' := by
  have Htab : Hid (Lib.TabIs Tryd.prog (w.alloc (.cells #[.int .i64 0, .int .i64 0, .string ⟨#[]⟩] 24)) "internal/strconv.uint64pow10" .u64 Lib.pow10Tab) := Joins.tab_stays Tab.global htab ((Below.refl _ _).alloc (Nat.le_refl _) _) (Nat.le_refl _)
  clear htab
  have Hr : Hid (readNum s.data.toList = none) := hr
  clear hr
  go_enter Tryd.func73, Tryd.ntmps73
  go_wp2_with fail
  refine (read_number _ _ hs Htab.out _ Hr.out).mono ?_
  rintro e w1 ⟨rfl, hb1⟩
  obtain ⟨hc1, hf1⟩ := bcell hb1
  have hz1 : w.heap.size < w1.heap.size := by have := hb1.size; simp at this; omega
  go_wp2_with fail
  exact bodyPost_ret (v := .agg #[.int .i64 0, .int .i64 0, .string ⟨#[]⟩]) (by simp [results, Tryd.results73, go_sem, hc1]) rfl ⟨rfl, (((((Below.refl _ _).alloc (Nat.le_refl _) _).trans (hb1.mono (by simp))).setCell (Nat.le_refl _) _).setCell (Nat.le_refl _) _).setCell (Nat.le_refl _) _⟩

end Go.Proofs.YtmdmlpijekilhaaDoor
