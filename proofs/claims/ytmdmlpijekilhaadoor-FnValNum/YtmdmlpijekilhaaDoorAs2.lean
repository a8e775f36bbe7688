/- Contract of impl.ValAs at every value and kind, over the seat's translation; the table of powers of ten is as the program's text lays it. -/
import Derived.Test.YtmdmlpijekilhaaDoorAs1
import Derived.Test.YtmdmlpijekilhaaDoorOk6
namespace Go.Proofs.YtmdmlpijekilhaaDoor
open Go.RowKit

def valA (x : Int × Int × List UInt8) : Value := .agg #[.int .i64 x.1, .int .i64 x.2.1, .string ⟨x.2.2.toArray⟩]

set_option maxHeartbeats 400000 in
/-- A value that is not right is nothing as any kind. -/
theorem impl_as_no (k n : Int) (s : ByteArray) (c : Int) (w : World) (hs : s.size ≤ maxLen) (hok : valOk k n s = false) :
    Calls Tryd.prog 14 #[.agg #[.int .i64 k, .int .i64 n, .string s], .int .i64 c] w fun e w' => e = .returned (.agg #[.int .i64 0, .int .i64 0, .string ⟨#[]⟩]) ∧ Below w.heap.size w w' := by
  go_enter Tryd.func14, Tryd.ntmps14
  go_wp2_with fail
  refine (value_any _ _ _ _ hs).mono ?_
  rintro e w1 ⟨T, v, rfl, hb⟩
  obtain ⟨hc, hf⟩ := bcell hb
  have hz : w.heap.size + 2 ≤ w1.heap.size := by have := hb.size; simp at this; omega
  have hz1 : w.heap.size + 1 < w1.heap.size := by omega
  have hz0 : w.heap.size < w1.heap.size := by omega
  go_wp2_with fail
  exact bodyPost_ret (v := .agg #[.int .i64 0, .int .i64 0, .string ⟨#[]⟩]) (by simp [results, Tryd.results14, go_sem, hc]) rfl ⟨rfl, (((((Below.refl _ _).alloc (Nat.le_refl _) _).alloc (by simp) _).trans (hb.mono (by simp; omega))).setCell (by simp) _).setCell (by simp) _ |>.setCell (by simp) _⟩

set_option maxHeartbeats 400000 in
/-- Any value is nothing as a kind that is none. -/
theorem impl_as_other (k n : Int) (s : ByteArray) (c : Int) (w : World) (hs : s.size ≤ maxLen) (hok : valOk k n s = true) (h1 : (c == 1) = false) (h2 : (c == 2) = false) :
    Calls Tryd.prog 14 #[.agg #[.int .i64 k, .int .i64 n, .string s], .int .i64 c] w fun e w' => e = .returned (.agg #[.int .i64 0, .int .i64 0, .string ⟨#[]⟩]) ∧ Below w.heap.size w w' := by
  go_enter Tryd.func14, Tryd.ntmps14
  go_wp2_with fail
  refine (value_any _ _ _ _ hs).mono ?_
  rintro e w1 ⟨T, v, rfl, hb⟩
  obtain ⟨hc, hf⟩ := bcell hb
  have hz : w.heap.size + 2 ≤ w1.heap.size := by have := hb.size; simp at this; omega
  have hz1 : w.heap.size + 1 < w1.heap.size := by omega
  have hz0 : w.heap.size < w1.heap.size := by omega
  go_wp2_with fail
  exact bodyPost_ret (v := .agg #[.int .i64 0, .int .i64 0, .string ⟨#[]⟩]) (by simp [results, Tryd.results14, go_sem, hc]) rfl ⟨rfl, (((((Below.refl _ _).alloc (Nat.le_refl _) _).alloc (by simp) _).trans (hb.mono (by simp; omega))).setCell (by simp) _).setCell (by simp) _ |>.setCell (by simp) _⟩

set_option maxHeartbeats 400000 in
/-- Nothing as a number: what its own method says. -/
theorem impl_asNum_none (k n : Int) (s : ByteArray) (w : World) (a b : Int) (z : ByteArray) (hv : ∀ w, Calls Tryd.prog 18 #[.agg #[.int .i64 k, .int .i64 n, .string s]] w fun e w' => e = .returned (.tuple #[.iface 66 (.agg #[]), .bool true]) ∧ Below w.heap.size w w')
    (hf : ∀ w', Below w.heap.size w w' → Calls Tryd.prog 80 #[(.agg #[])] w' fun e w'' => e = .returned (.agg #[.int .i64 a, .int .i64 b, .string z]) ∧ Below w'.heap.size w' w'') :
    Calls Tryd.prog 14 #[.agg #[.int .i64 k, .int .i64 n, .string s], .int .i64 1] w fun e w' => e = .returned (.agg #[.int .i64 a, .int .i64 b, .string z]) ∧ Below w.heap.size w w' := by
  have hm := m_none_asNum
  have Hv := (show Hid _ from hv)
  have Hf := (show Hid _ from hf)
  clear hv hf
  go_enter Tryd.func14, Tryd.ntmps14
  go_wp2_with fail
  refine (Hv.out _).mono ?_
  rintro e w1 ⟨rfl, hb⟩
  obtain ⟨hc, hf⟩ := bcell hb
  have hz : w.heap.size + 2 ≤ w1.heap.size := by have := hb.size; simp at this; omega
  have hz1 : w.heap.size + 1 < w1.heap.size := by omega
  have Hb : Hid (Below w.heap.size w w1) := (((Below.refl _ _).alloc (Nat.le_refl _) _).alloc (by simp) _).trans (hb.mono (by simp; omega))
  clear hb
  go_wp2_with fail
  refine (Hf.out _ Hb.out).mono ?_
  rintro e w2 ⟨rfl, hb⟩
  obtain ⟨hc2, hf2⟩ := bcell hb
  have hy1 : w.heap.size + 1 < w2.heap.size := by have := hb.size; omega
  go_wp2_with fail
  exact bodyPost_ret (v := .agg #[.int .i64 a, .int .i64 b, .string z]) (by simp [results, Tryd.results14, go_sem, hc, hz1, hc2]) rfl ⟨rfl, (((Hb.out.trans (hb.mono Hb.out.size)).setCell (by simp) _).setCell (by simp) _).setCell (by simp) _⟩

set_option maxHeartbeats 400000 in
/-- A right number as a number: what its own method says. -/
theorem impl_asNum_num (k n : Int) (s : ByteArray) (w : World) (x : Int) (a b : Int) (z : ByteArray) (hv : ∀ w, Calls Tryd.prog 18 #[.agg #[.int .i64 k, .int .i64 n, .string s]] w fun e w' => e = .returned (.tuple #[.iface 51 (.int .i64 x), .bool true]) ∧ Below w.heap.size w w')
    (hf : ∀ w', Below w.heap.size w w' → Calls Tryd.prog 76 #[(.int .i64 x)] w' fun e w'' => e = .returned (.agg #[.int .i64 a, .int .i64 b, .string z]) ∧ Below w'.heap.size w' w'') :
    Calls Tryd.prog 14 #[.agg #[.int .i64 k, .int .i64 n, .string s], .int .i64 1] w fun e w' => e = .returned (.agg #[.int .i64 a, .int .i64 b, .string z]) ∧ Below w.heap.size w w' := by
  have hm := m_num_asNum x
  have Hv := (show Hid _ from hv)
  have Hf := (show Hid _ from hf)
  clear hv hf
  go_enter Tryd.func14, Tryd.ntmps14
  go_wp2_with fail
  refine (Hv.out _).mono ?_
  rintro e w1 ⟨rfl, hb⟩
  obtain ⟨hc, hf⟩ := bcell hb
  have hz : w.heap.size + 2 ≤ w1.heap.size := by have := hb.size; simp at this; omega
  have hz1 : w.heap.size + 1 < w1.heap.size := by omega
  have Hb : Hid (Below w.heap.size w w1) := (((Below.refl _ _).alloc (Nat.le_refl _) _).alloc (by simp) _).trans (hb.mono (by simp; omega))
  clear hb
  go_wp2_with fail
  refine (Hf.out _ Hb.out).mono ?_
  rintro e w2 ⟨rfl, hb⟩
  obtain ⟨hc2, hf2⟩ := bcell hb
  have hy1 : w.heap.size + 1 < w2.heap.size := by have := hb.size; omega
  go_wp2_with fail
  exact bodyPost_ret (v := .agg #[.int .i64 a, .int .i64 b, .string z]) (by simp [results, Tryd.results14, go_sem, hc, hz1, hc2]) rfl ⟨rfl, (((Hb.out.trans (hb.mono Hb.out.size)).setCell (by simp) _).setCell (by simp) _).setCell (by simp) _⟩

set_option maxHeartbeats 400000 in
/-- A right text as a number: what its own method says. -/
theorem impl_asNum_text (k n : Int) (s : ByteArray) (w : World) (x : ByteArray) (a b : Int) (z : ByteArray) (hv : ∀ w, Calls Tryd.prog 18 #[.agg #[.int .i64 k, .int .i64 n, .string s]] w fun e w' => e = .returned (.tuple #[.iface 46 (.string x), .bool true]) ∧ Below w.heap.size w w')
    (hf : ∀ w', Below w.heap.size w w' → Calls Tryd.prog 73 #[(.string x)] w' fun e w'' => e = .returned (.agg #[.int .i64 a, .int .i64 b, .string z]) ∧ Below w'.heap.size w' w'') :
    Calls Tryd.prog 14 #[.agg #[.int .i64 k, .int .i64 n, .string s], .int .i64 1] w fun e w' => e = .returned (.agg #[.int .i64 a, .int .i64 b, .string z]) ∧ Below w.heap.size w w' := by
  have hm := m_text_asNum x
  have Hv := (show Hid _ from hv)
  have Hf := (show Hid _ from hf)
  clear hv hf
  go_enter Tryd.func14, Tryd.ntmps14
  go_wp2_with fail
  refine (Hv.out _).mono ?_
  rintro e w1 ⟨rfl, hb⟩
  obtain ⟨hc, hf⟩ := bcell hb
  have hz : w.heap.size + 2 ≤ w1.heap.size := by have := hb.size; simp at this; omega
  have hz1 : w.heap.size + 1 < w1.heap.size := by omega
  have Hb : Hid (Below w.heap.size w w1) := (((Below.refl _ _).alloc (Nat.le_refl _) _).alloc (by simp) _).trans (hb.mono (by simp; omega))
  clear hb
  go_wp2_with fail
  refine (Hf.out _ Hb.out).mono ?_
  rintro e w2 ⟨rfl, hb⟩
  obtain ⟨hc2, hf2⟩ := bcell hb
  have hy1 : w.heap.size + 1 < w2.heap.size := by have := hb.size; omega
  go_wp2_with fail
  exact bodyPost_ret (v := .agg #[.int .i64 a, .int .i64 b, .string z]) (by simp [results, Tryd.results14, go_sem, hc, hz1, hc2]) rfl ⟨rfl, (((Hb.out.trans (hb.mono Hb.out.size)).setCell (by simp) _).setCell (by simp) _).setCell (by simp) _⟩

set_option maxHeartbeats 400000 in
/-- Nothing as a text: what its own method says. -/
theorem impl_asText_none (k n : Int) (s : ByteArray) (w : World) (a b : Int) (z : ByteArray) (hv : ∀ w, Calls Tryd.prog 18 #[.agg #[.int .i64 k, .int .i64 n, .string s]] w fun e w' => e = .returned (.tuple #[.iface 66 (.agg #[]), .bool true]) ∧ Below w.heap.size w w')
    (hf : ∀ w', Below w.heap.size w w' → Calls Tryd.prog 81 #[(.agg #[])] w' fun e w'' => e = .returned (.agg #[.int .i64 a, .int .i64 b, .string z]) ∧ Below w'.heap.size w' w'') :
    Calls Tryd.prog 14 #[.agg #[.int .i64 k, .int .i64 n, .string s], .int .i64 2] w fun e w' => e = .returned (.agg #[.int .i64 a, .int .i64 b, .string z]) ∧ Below w.heap.size w w' := by
  have hm := m_none_asText
  have Hv := (show Hid _ from hv)
  have Hf := (show Hid _ from hf)
  clear hv hf
  go_enter Tryd.func14, Tryd.ntmps14
  go_wp2_with fail
  refine (Hv.out _).mono ?_
  rintro e w1 ⟨rfl, hb⟩
  obtain ⟨hc, hf⟩ := bcell hb
  have hz : w.heap.size + 2 ≤ w1.heap.size := by have := hb.size; simp at this; omega
  have hz1 : w.heap.size + 1 < w1.heap.size := by omega
  have Hb : Hid (Below w.heap.size w w1) := (((Below.refl _ _).alloc (Nat.le_refl _) _).alloc (by simp) _).trans (hb.mono (by simp; omega))
  clear hb
  go_wp2_with fail
  refine (Hf.out _ Hb.out).mono ?_
  rintro e w2 ⟨rfl, hb⟩
  obtain ⟨hc2, hf2⟩ := bcell hb
  have hy1 : w.heap.size + 1 < w2.heap.size := by have := hb.size; omega
  go_wp2_with fail
  exact bodyPost_ret (v := .agg #[.int .i64 a, .int .i64 b, .string z]) (by simp [results, Tryd.results14, go_sem, hc, hz1, hc2]) rfl ⟨rfl, (((Hb.out.trans (hb.mono Hb.out.size)).setCell (by simp) _).setCell (by simp) _).setCell (by simp) _⟩

set_option maxHeartbeats 400000 in
/-- A right number as a text: what its own method says. -/
theorem impl_asText_num (k n : Int) (s : ByteArray) (w : World) (x : Int) (a b : Int) (z : ByteArray) (hv : ∀ w, Calls Tryd.prog 18 #[.agg #[.int .i64 k, .int .i64 n, .string s]] w fun e w' => e = .returned (.tuple #[.iface 51 (.int .i64 x), .bool true]) ∧ Below w.heap.size w w')
    (hf : ∀ w', Below w.heap.size w w' → Calls Tryd.prog 77 #[(.int .i64 x)] w' fun e w'' => e = .returned (.agg #[.int .i64 a, .int .i64 b, .string z]) ∧ Below w'.heap.size w' w'') :
    Calls Tryd.prog 14 #[.agg #[.int .i64 k, .int .i64 n, .string s], .int .i64 2] w fun e w' => e = .returned (.agg #[.int .i64 a, .int .i64 b, .string z]) ∧ Below w.heap.size w w' := by
  have hm := m_num_asText x
  have Hv := (show Hid _ from hv)
  have Hf := (show Hid _ from hf)
  clear hv hf
  go_enter Tryd.func14, Tryd.ntmps14
  go_wp2_with fail
  refine (Hv.out _).mono ?_
  rintro e w1 ⟨rfl, hb⟩
  obtain ⟨hc, hf⟩ := bcell hb
  have hz : w.heap.size + 2 ≤ w1.heap.size := by have := hb.size; simp at this; omega
  have hz1 : w.heap.size + 1 < w1.heap.size := by omega
  have Hb : Hid (Below w.heap.size w w1) := (((Below.refl _ _).alloc (Nat.le_refl _) _).alloc (by simp) _).trans (hb.mono (by simp; omega))
  clear hb
  go_wp2_with fail
  refine (Hf.out _ Hb.out).mono ?_
  rintro e w2 ⟨rfl, hb⟩
  obtain ⟨hc2, hf2⟩ := bcell hb
  have hy1 : w.heap.size + 1 < w2.heap.size := by have := hb.size; omega
  go_wp2_with fail
  exact bodyPost_ret (v := .agg #[.int .i64 a, .int .i64 b, .string z]) (by simp [results, Tryd.results14, go_sem, hc, hz1, hc2]) rfl ⟨rfl, (((Hb.out.trans (hb.mono Hb.out.size)).setCell (by simp) _).setCell (by simp) _).setCell (by simp) _⟩

set_option maxHeartbeats 400000 in
/-- A right text as a text: what its own method says. -/
theorem impl_asText_text (k n : Int) (s : ByteArray) (w : World) (x : ByteArray) (a b : Int) (z : ByteArray) (hv : ∀ w, Calls Tryd.prog 18 #[.agg #[.int .i64 k, .int .i64 n, .string s]] w fun e w' => e = .returned (.tuple #[.iface 46 (.string x), .bool true]) ∧ Below w.heap.size w w')
    (hf : ∀ w', Below w.heap.size w w' → Calls Tryd.prog 74 #[(.string x)] w' fun e w'' => e = .returned (.agg #[.int .i64 a, .int .i64 b, .string z]) ∧ Below w'.heap.size w' w'') :
    Calls Tryd.prog 14 #[.agg #[.int .i64 k, .int .i64 n, .string s], .int .i64 2] w fun e w' => e = .returned (.agg #[.int .i64 a, .int .i64 b, .string z]) ∧ Below w.heap.size w w' := by
  have hm := m_text_asText x
  have Hv := (show Hid _ from hv)
  have Hf := (show Hid _ from hf)
  clear hv hf
  go_enter Tryd.func14, Tryd.ntmps14
  go_wp2_with fail
  refine (Hv.out _).mono ?_
  rintro e w1 ⟨rfl, hb⟩
  obtain ⟨hc, hf⟩ := bcell hb
  have hz : w.heap.size + 2 ≤ w1.heap.size := by have := hb.size; simp at this; omega
  have hz1 : w.heap.size + 1 < w1.heap.size := by omega
  have Hb : Hid (Below w.heap.size w w1) := (((Below.refl _ _).alloc (Nat.le_refl _) _).alloc (by simp) _).trans (hb.mono (by simp; omega))
  clear hb
  go_wp2_with fail
  refine (Hf.out _ Hb.out).mono ?_
  rintro e w2 ⟨rfl, hb⟩
  obtain ⟨hc2, hf2⟩ := bcell hb
  have hy1 : w.heap.size + 1 < w2.heap.size := by have := hb.size; omega
  go_wp2_with fail
  exact bodyPost_ret (v := .agg #[.int .i64 a, .int .i64 b, .string z]) (by simp [results, Tryd.results14, go_sem, hc, hz1, hc2]) rfl ⟨rfl, (((Hb.out.trans (hb.mono Hb.out.size)).setCell (by simp) _).setCell (by simp) _).setCell (by simp) _⟩

theorem asV_no {k n : Int} {s : ByteArray} {c : Int} (h : valOk k n s = false) : asV k n s c = (0, 0, []) := by unfold asV; rw [h]; rfl
theorem asV_other {k n : Int} {s : ByteArray} {c : Int} (h1 : ¬ c = 1) (h2 : ¬ c = 2) : asV k n s c = (0, 0, []) := by unfold asV; rw [if_neg h1, if_neg h2]; simp
theorem asV_00 {n : Int} {s : ByteArray} {c : Int} : asV 0 n s c = (0, 0, []) := by unfold asV; simp
theorem asV_11 {n : Int} {s : ByteArray} (h : valOk 1 n s = true) : asV 1 n s 1 = (1, n, []) := by unfold asV; rw [h]; rfl
theorem asV_12 {n : Int} {s : ByteArray} (h : valOk 1 n s = true) : asV 1 n s 2 = (2, 0, Lib.itoa n) := by unfold asV; rw [h]; rfl
theorem asV_22 {n : Int} {s : ByteArray} (h : valOk 2 n s = true) : asV 2 n s 2 = (2, 0, s.data.toList) := by unfold asV; rw [h]; rfl
theorem asV_21s {n m : Int} {s : ByteArray} (h : valOk 2 n s = true) (hr : readNum s.data.toList = some m) : asV 2 n s 1 = (1, m, []) := by unfold asV; rw [h, hr]; rfl
theorem asV_21n {n : Int} {s : ByteArray} (h : valOk 2 n s = true) (hr : readNum s.data.toList = none) : asV 2 n s 1 = (0, 0, []) := by unfold asV; rw [h, hr]; rfl

theorem impl_as (k n : Int) (s : ByteArray) (c : Int) (w : World) (hs : s.size ≤ maxLen) (htab : Lib.TabIs Tryd.prog w "internal/strconv.uint64pow10" .u64 Lib.pow10Tab) :
    Calls Tryd.prog 14 #[.agg #[.int .i64 k, .int .i64 n, .string s], .int .i64 c] w fun e w' => e = .returned (valA (asV k n s c)) ∧ Below w.heap.size w w' := by
  have ht : ∀ w', Below w.heap.size w w' → Lib.TabIs Tryd.prog w' "internal/strconv.uint64pow10" .u64 Lib.pow10Tab := fun w' hb => Joins.tab_stays Tab.global htab hb (Nat.le_refl _)
  cases hok : valOk k n s
  · rw [asV_no hok]; exact impl_as_no k n s c w hs hok
  · by_cases h1 : c = 1
    · subst h1
      rcases ok_kind hok with rfl | rfl | rfl
      · rw [asV_00]
        exact impl_asNum_none 0 n s w _ _ _ (fun w => by have := value_none n s w; rw [hok] at this; exact this) (fun w' _ => none_asNum w')
      · rw [asV_11 hok]
        exact impl_asNum_num 1 n s w n _ _ _ (fun w => by have := value_num n s w; rw [hok] at this; exact this) (fun w' _ => num_asNum n w')
      · cases hr : readNum s.data.toList with
        | none =>
          rw [asV_21n hok hr]
          exact impl_asNum_text 2 n s w s _ _ _ (fun w => by have := value_text n s w hs; rw [hok] at this; exact this) (fun w' hb => text_asNum_none s w' hs hr (ht w' hb))
        | some m =>
          rw [asV_21s hok hr]
          exact impl_asNum_text 2 n s w s _ _ _ (fun w => by have := value_text n s w hs; rw [hok] at this; exact this) (fun w' hb => text_asNum_some s m w' hs hr (ht w' hb))
    · by_cases h2 : c = 2
      · subst h2
        rcases ok_kind hok with rfl | rfl | rfl
        · rw [asV_00]
          exact impl_asText_none 0 n s w _ _ _ (fun w => by have := value_none n s w; rw [hok] at this; exact this) (fun w' _ => none_asText w')
        · rw [asV_12 hok]
          obtain ⟨_, h3, h4⟩ := ok_num hok
          exact impl_asText_num 1 n s w n _ _ _ (fun w => by have := value_num n s w; rw [hok] at this; exact this) (fun w' hb => num_asText n w' h3 h4 (ht w' hb))
        · rw [asV_22 hok]
          have e : valA (2, 0, s.data.toList) = .agg #[.int .i64 2, .int .i64 0, .string s] := by unfold valA; rw [bytes_eta]
          rw [e]
          exact impl_asText_text 2 n s w s _ _ _ (fun w => by have := value_text n s w hs; rw [hok] at this; exact this) (fun w' _ => text_asText s w')
      · rw [asV_other h1 h2]
        exact impl_as_other k n s c w hs hok (beq_eq_false_iff_ne.2 h1) (beq_eq_false_iff_ne.2 h2)

end Go.Proofs.YtmdmlpijekilhaaDoor
