/- Contracts of impl.unquote and impl.readNumber, over the seat's translation; the table of powers of ten is as the program's text lays it. -/
import Derived.Test.YtmfilahccefcoaaDoorA2
import Derived.Test.YtmfilahccefcoaaDoorRd5
import Derived.Test.YtmfilahccefcoaaDoorShelf
import Derived.Lib.SmallJoins
namespace Go.Proofs.YtmfilahccefcoaaDoor
open Go.RowKit

def inner (l : List UInt8) : List UInt8 := Lib.trimSuffix (Lib.trimPrefix l [39]) [39]
def quoted (l : List UInt8) : Bool := Lib.hasPrefix l [39] && Lib.hasSuffix (Lib.trimPrefix l [39]) [39]

theorem trim_len (l p : List UInt8) : (Lib.trimPrefix l p).length ≤ l.length := by
  unfold Lib.trimPrefix; split <;> simp

set_option maxHeartbeats 400000 in
theorem unquote_any (t : ByteArray) (w : World) (ht : t.size ≤ maxLen) :
    Calls Tryd.prog 19 #[.string t] w fun e w' => e = .returned (.tuple #[.string ⟨(inner t.data.toList).toArray⟩, .bool (quoted t.data.toList)]) ∧ w' = w := by
  unfold maxLen at ht
  go_enter Tryd.func19, Tryd.ntmps19
  go_wp2_with fail
  refine (Tryd.strings_CutPrefix _ _ _).mono ?_
  rintro e w1 ⟨rfl, rfl⟩
  go_wp2_with fail
  refine (Tryd.strings_CutSuffix _ _ _ (by have := trim_len t.data.toList [39]; rw [len_of] at this; show (Lib.trimPrefix t.data.toList [39]).length ≤ _; omega)).mono ?_
  rintro e w2 ⟨rfl, rfl⟩
  go_wp2_with fail
  all_goals
    go_ret2
    refine ⟨?_, rfl⟩
    simp_all [inner, quoted]

theorem below_grow (w : World) (k : Nat) (os : Array Obj) : Below w.heap.size w (Sort.grow (w.drewN k) os) :=
  ⟨rfl, rfl, rfl, by simp [Sort.grow, World.drewN], fun j hj => by simp [Sort.grow, World.drewN, Array.getElem?_append_left hj]⟩
theorem Tab.global : Tryd.prog.globalNamed "internal/strconv.uint64pow10" = some 0 := by kernel_rfl
theorem rn_none {l : List UInt8} (h : scan (Lib.trimPrefix l [45]) 0 = none) : readNum l = none := by unfold readNum; rw [h]
theorem rn_some {l : List UInt8} {a : Nat} (h : scan (Lib.trimPrefix l [45]) 0 = some a) : readNum l = if Lib.itoa (if Lib.hasPrefix l [45] then -(a : Int) else a) = l then some (if Lib.hasPrefix l [45] then -(a : Int) else a) else none := by unfold readNum; rw [h]
theorem sc_next (s : ByteArray) (k a : Nat) (h : k < s.size) (hd : dig s[k] = true) (hl : ¬ 999 < a * 10 + (s[k].toNat - 48)) : scan (s.data.toList.drop k) a = scan (s.data.toList.drop (k + 1)) (a * 10 + (s[k].toNat - 48)) := by
  rw [drop_cons s k h]; simp [scan, hd, hl]
theorem sc_stop (s : ByteArray) (k a : Nat) (h : k < s.size) (hd : dig s[k] = false) : scan (s.data.toList.drop k) a = none := by
  rw [drop_cons s k h]; simp [scan, hd]
theorem sc_big (s : ByteArray) (k a : Nat) (h : k < s.size) (hl : 999 < a * 10 + (s[k].toNat - 48)) : scan (s.data.toList.drop k) a = none := by
  rw [drop_cons s k h]; simp [scan, hl]
theorem pair_none {l : List UInt8} {r : Option Int} (h : readNum l = none) (hr : readNum l = r) : (0 : Int) = r.getD 0 ∧ false = r.isSome := by
  rw [h] at hr; subst hr; exact ⟨rfl, rfl⟩
theorem rn_pos {l : List UInt8} {a : Nat} (h : scan (Lib.trimPrefix l [45]) 0 = some a) (hb : Lib.hasPrefix l [45] = false) : readNum l = if Lib.itoa (a : Int) = l then some (a : Int) else none := by
  rw [rn_some h, hb]; rfl
theorem rn_neg {l : List UInt8} {a : Nat} (h : scan (Lib.trimPrefix l [45]) 0 = some a) (hb : Lib.hasPrefix l [45] = true) : readNum l = if Lib.itoa (-(a : Int)) = l then some (-(a : Int)) else none := by
  rw [rn_some h, hb]; rfl
theorem fin_some {l : List UInt8} {r : Option Int} {n : Int} (h : readNum l = if Lib.itoa n = l then some n else none) (hr : readNum l = r) (he : Lib.itoa n = l) : n = r.getD 0 ∧ true = r.isSome := by
  rw [h, if_pos he] at hr; subst hr; exact ⟨rfl, rfl⟩
theorem fin_none {l : List UInt8} {r : Option Int} {n : Int} (h : readNum l = if Lib.itoa n = l then some n else none) (hr : readNum l = r) (he : ¬ Lib.itoa n = l) : (0 : Int) = r.getD 0 ∧ false = r.isSome := by
  rw [h, if_neg he] at hr; subst hr; exact ⟨rfl, rfl⟩
theorem dg_true {c : Int} (h : 48 ≤ c ∧ c ≤ 57) : digit c = true := by simp [digit, h]
theorem dg_false {c : Int} (h : ¬ (48 ≤ c ∧ c ≤ 57)) : digit c = false := by
  rw [Bool.eq_false_iff]; simp only [digit, ne_eq, Bool.and_eq_true, decide_eq_true_eq]; exact h

set_option maxHeartbeats 1000000 in
theorem read_number (t : ByteArray) (w : World) (ht : t.size ≤ maxLen) (htab : Lib.TabIs Tryd.prog w "internal/strconv.uint64pow10" .u64 Lib.pow10Tab) (r : Option Int) (hr : readNum t.data.toList = r) :
    Calls Tryd.prog 22 #[.string t] w fun e w' => e = .returned (.tuple #[.int .i64 (r.getD 0), .bool r.isSome]) ∧ Below w.heap.size w w' := by
  unfold maxLen at ht
  have Hr : Hid (readNum t.data.toList = r) := hr
  have Htab : Hid (Lib.TabIs Tryd.prog w "internal/strconv.uint64pow10" .u64 Lib.pow10Tab) := htab
  clear hr htab
  go_enter Tryd.func22, Tryd.ntmps22
  go_wp2_with fail
  refine (Tryd.strings_CutPrefix _ _ _).mono ?_
  rintro e w ⟨rfl, rfl⟩
  go_wp2_with fail
  obtain ⟨d, hd⟩ : ∃ d : ByteArray, d = ⟨(Lib.trimPrefix t.data.toList [45]).toArray⟩ := ⟨_, rfl⟩
  have Hd : Hid (d.data.toList = Lib.trimPrefix t.data.toList [45]) := (show d.data.toList = _ by rw [hd])
  have hds : d.size ≤ 9223372036854775807 := by have := trim_len t.data.toList [45]; rw [len_of] at this; rw [← len_of, Hd.out]; omega
  rw [← hd]
  clear hd
  go_loopw [6, 8] (fun n _ w' => ∃ pos a : Nat, w' = w.iter d pos ∧ pos ≤ d.size ∧ n = .int .i64 a ∧ a ≤ 999 ∧ Hid (scan (d.data.toList.drop pos) a = scan d.data.toList 0)) (fun _ _ w' => d.size - w'.iterPos w.heap.size)
  case atStart => exact ⟨0, 0, rfl, Nat.zero_le _, rfl, by omega, (rfl : scan (d.data.toList.drop 0) 0 = scan d.data.toList 0)⟩
  case round =>
    obtain ⟨pos, a, rfl, hpos, rfl, ha, Hs⟩ := hrel
    by_cases hp : pos < d.size
    · by_cases h128 : d[pos].toNat < 128
      · have hnx : ∀ ty, (Instr.next (.pointer (some ⟨w.heap.size, 0, none⟩)) true ty).run Tryd.prog (w.iter d pos) = _ := fun ty => run_next_ascii w d pos ty hp h128
        by_cases hdg : 48 ≤ d[pos].toNat ∧ d[pos].toNat ≤ 57
        · have h48 : (48 : Int) ≤ d[pos].toNat := by omega
          have h57 : (d[pos].toNat : Int) ≤ 57 := by omega
          have hdi : digit (d[pos].toNat : Int) = true := dg_true (by omega)
          by_cases hbig : 999 < a * 10 + (d[pos].toNat - 48)
          · have hbig' : (999 : Int) < 10 * a + (d[pos].toNat - 48) := by omega
            have Hn : Hid ((0 : Int) = r.getD 0 ∧ false = r.isSome) := pair_none (rn_none (by rw [← Hd.out, ← Hs.out]; exact sc_big d pos a hp hbig)) Hr.out
            go_wp2_with (go_at_call 37; refine (digit_ok _ _).mono ?_; rintro e w' ⟨rfl, rfl⟩)
            go_ret2
            exact ⟨ret_pair Hn.out.1 Hn.out.2, (Below.refl _ _).alloc (Nat.le_refl _) _⟩
          · have hbig' : ¬ (999 : Int) < 10 * a + (d[pos].toNat - 48) := by omega
            go_wp2_with (go_at_call 37; refine (digit_ok _ _).mono ?_; rintro e w' ⟨rfl, rfl⟩)
            go_roundw
            case rel => exact ⟨pos + 1, a * 10 + (d[pos].toNat - 48), rfl, by omega, ints_eq (by omega), by omega, (by rw [← Hs.out, sc_next d pos a hp (dig_true hdg) hbig] : scan (d.data.toList.drop (pos + 1)) (a * 10 + (d[pos].toNat - 48)) = scan d.data.toList 0)⟩
            case measure => simp; omega
        · have hdi : digit (d[pos].toNat : Int) = false := dg_false (by omega)
          have Hn : Hid ((0 : Int) = r.getD 0 ∧ false = r.isSome) := pair_none (rn_none (by rw [← Hd.out, ← Hs.out]; exact sc_stop d pos a hp (dig_false hdg))) Hr.out
          go_wp2_with (go_at_call 37; refine (digit_ok _ _).mono ?_; rintro e w' ⟨rfl, rfl⟩)
          go_ret2
          exact ⟨ret_pair Hn.out.1 Hn.out.2, (Below.refl _ _).alloc (Nat.le_refl _) _⟩
      · have hnx : ∀ ty, (Instr.next (.pointer (some ⟨w.heap.size, 0, none⟩)) true ty).run Tryd.prog (w.iter d pos) = _ := fun ty => run_next_any w d pos ty hp
        have hh := (decode_high d pos hp (by omega)).1
        have hdi : digit ((Utf8.decode d pos).1 : Int) = false := dg_false (by omega)
        have Hn : Hid ((0 : Int) = r.getD 0 ∧ false = r.isSome) := pair_none (rn_none (by rw [← Hd.out, ← Hs.out]; exact sc_stop d pos a hp (dig_false (by omega)))) Hr.out
        go_wp2_with (go_at_call 37; refine (digit_ok _ _).mono ?_; rintro e w' ⟨rfl, rfl⟩)
        go_ret2
        exact ⟨ret_pair Hn.out.1 Hn.out.2, (Below.refl _ _).alloc (Nat.le_refl _) _⟩
    · have hnx : ∀ ty, (Instr.next (.pointer (some ⟨w.heap.size, 0, none⟩)) true ty).run Tryd.prog (w.iter d pos) = _ := fun ty => run_next_end w d pos ty hp
      have Hsc : Hid (scan (Lib.trimPrefix t.data.toList [45]) 0 = some a) := (by rw [← Hd.out, ← Hs.out, drop_end d pos hp]; rfl)
      have hbe : Below w.heap.size w (w.iter d pos) := (Below.refl _ _).alloc (Nat.le_refl _) _
      have Ht2 : Hid (Lib.TabIs Tryd.prog (w.iter d pos) "internal/strconv.uint64pow10" .u64 Lib.pow10Tab) := Joins.tab_stays Tab.global Htab.out hbe (Nat.le_refl _)
      cases hbw : Lib.hasPrefix t.data.toList [45]
      · have HR : Hid (readNum t.data.toList = if Lib.itoa ((a : Int)) = t.data.toList then some ((a : Int)) else none) := rn_pos Hsc.out hbw
        by_cases he : Lib.itoa ((a : Int)) = t.data.toList
        · have Hf : Hid (((a : Int)) = r.getD 0 ∧ true = r.isSome) := fin_some HR.out Hr.out he
          go_wp2_with fail
          refine (Tryd.strconv_Itoa _ (by omega) (by omega) _ Ht2.out).mono ?_
          rintro e w2 ⟨rfl, q, os, rfl⟩
          go_wp2_with fail
          go_ret2
          exact ⟨ret_pair Hf.out.1 Hf.out.2, hbe.trans ((below_grow _ _ _).mono hbe.size)⟩
        · have hne : (Lib.itoa ((a : Int)) == t.toList) = false := by
            rw [beq_eq_false_iff_ne]; intro h; exact he (by rw [h, Lib.toList_data])
          have Hf : Hid ((0 : Int) = r.getD 0 ∧ false = r.isSome) := fin_none HR.out Hr.out he
          clear he
          go_wp2_with fail
          refine (Tryd.strconv_Itoa _ (by omega) (by omega) _ Ht2.out).mono ?_
          rintro e w2 ⟨rfl, q, os, rfl⟩
          go_wp2_with fail
          go_ret2
          exact ⟨ret_pair Hf.out.1 Hf.out.2, hbe.trans ((below_grow _ _ _).mono hbe.size)⟩
      · have HR : Hid (readNum t.data.toList = if Lib.itoa (-(a : Int)) = t.data.toList then some (-(a : Int)) else none) := rn_neg Hsc.out hbw
        by_cases he : Lib.itoa (-(a : Int)) = t.data.toList
        · have Hf : Hid ((-(a : Int)) = r.getD 0 ∧ true = r.isSome) := fin_some HR.out Hr.out he
          go_wp2_with fail
          refine (Tryd.strconv_Itoa _ (by omega) (by omega) _ Ht2.out).mono ?_
          rintro e w2 ⟨rfl, q, os, rfl⟩
          go_wp2_with fail
          go_ret2
          exact ⟨ret_pair Hf.out.1 Hf.out.2, hbe.trans ((below_grow _ _ _).mono hbe.size)⟩
        · have hne : (Lib.itoa (-(a : Int)) == t.toList) = false := by
            rw [beq_eq_false_iff_ne]; intro h; exact he (by rw [h, Lib.toList_data])
          have Hf : Hid ((0 : Int) = r.getD 0 ∧ false = r.isSome) := fin_none HR.out Hr.out he
          clear he
          go_wp2_with fail
          refine (Tryd.strconv_Itoa _ (by omega) (by omega) _ Ht2.out).mono ?_
          rintro e w2 ⟨rfl, q, os, rfl⟩
          go_wp2_with fail
          go_ret2
          exact ⟨ret_pair Hf.out.1 Hf.out.2, hbe.trans ((below_grow _ _ _).mono hbe.size)⟩

end Go.Proofs.YtmfilahccefcoaaDoor
