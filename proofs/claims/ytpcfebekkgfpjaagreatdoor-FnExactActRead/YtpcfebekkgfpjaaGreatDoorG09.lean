/- Contracts of impl.unquote and impl.readNumber, over the seat's translation; the table of powers of ten is as the program's text lays it. -/
import Derived.Test.YtpcfebekkgfpjaaGreatDoorG01
import Derived.Test.YtpcfebekkgfpjaaGreatDoorG08
import Derived.Test.YtpcfebekkgfpjaaGreatDoorShelf
import Derived.Lib.SmallJoins
import Derived.Test.YtpcfebekkgfpjaaGreatDoorG03
namespace Go.Proofs.YtpcfebekkgfpjaaGreatDoor
open Go.RowKit

def inner (l : List UInt8) : List UInt8 := Lib.trimSuffix (Lib.trimPrefix l [39]) [39]
def quoted (l : List UInt8) : Bool := Lib.hasPrefix l [39] && Lib.hasSuffix (Lib.trimPrefix l [39]) [39]

theorem trim_len (l p : List UInt8) : (Lib.trimPrefix l p).length ≤ l.length := by
  unfold Lib.trimPrefix; split <;> simp

set_option maxHeartbeats 400000 in
theorem unquote_any (t : ByteArray) (w : World) (ht : t.size ≤ maxLen) :
    Calls Tryz.prog 127 #[.string t] w fun e w' => e = .returned (.tuple #[.string ⟨(inner t.data.toList).toArray⟩, .bool (quoted t.data.toList)]) ∧ w' = w := by
  unfold maxLen at ht
  go_enter Tryz.func127, Tryz.ntmps127
  go_wp2_with fail
  refine (Tryz.strings_CutPrefix _ _ _).mono ?_
  rintro e w1 ⟨rfl, rfl⟩
  go_wp2_with fail
  refine (Tryz.strings_CutSuffix _ _ _ (by have := trim_len t.data.toList [39]; rw [len_of] at this; show (Lib.trimPrefix t.data.toList [39]).length ≤ _; omega)).mono ?_
  rintro e w2 ⟨rfl, rfl⟩
  go_wp2_with fail
  all_goals
    go_ret2
    refine ⟨?_, rfl⟩
    simp_all [inner, quoted]

theorem below_grow (w : World) (k : Nat) (os : Array Obj) : Below w.heap.size w (Sort.grow (w.drewN k) os) :=
  ⟨rfl, rfl, rfl, by simp [Sort.grow, World.drewN], fun j hj => by simp [Sort.grow, World.drewN, Array.getElem?_append_left hj]⟩
theorem Tab.global : Tryz.prog.globalNamed "internal/strconv.uint64pow10" = some 3 := by kernel_rfl
theorem rn_none {l : List UInt8} (h : scan (Lib.trimPrefix l [45]) 0 = none) : readNum l = none := by unfold readNum; rw [h]
theorem rn_some {l : List UInt8} {a : Nat} (h : scan (Lib.trimPrefix l [45]) 0 = some a) : readNum l = if Lib.itoa (if Lib.hasPrefix l [45] then -(a : Int) else a) = l then some (if Lib.hasPrefix l [45] then -(a : Int) else a) else none := by unfold readNum; rw [h]
theorem sc_next (s : ByteArray) (k a : Nat) (h : k < s.size) (hd : dig s[k] = true) (hl : ¬ 999 < a * 10 + (s[k].toNat - 48)) : scan (s.data.toList.drop k) a = scan (s.data.toList.drop (k + 1)) (a * 10 + (s[k].toNat - 48)) := by
  rw [drop_cons s k h]; simp [scan, hd, hl]
theorem sc_stop (s : ByteArray) (k a : Nat) (h : k < s.size) (hd : dig s[k] = false) : scan (s.data.toList.drop k) a = none := by
  rw [drop_cons s k h]; simp [scan, hd]
theorem sc_big (s : ByteArray) (k a : Nat) (h : k < s.size) (hl : 999 < a * 10 + (s[k].toNat - 48)) : scan (s.data.toList.drop k) a = none := by
  rw [drop_cons s k h]; simp [scan, hl]
theorem pair_none {l : List UInt8} {r : Option Int} (h : readNum l = none) (hr : readNum l = r) : (0 : Int) = r.getD 0 ∧ false = r.isSome := by
  rw [h] at hr; subst hr; exact ⟨rfl, rfl⟩
theorem rn_pos {l : List UInt8} {a : Nat} (h : scan (Lib.trimPrefix l [45]) 0 = some a) (hb : Lib.hasPrefix l [45] = false) : readNum l = if Lib.itoa (a : Int) = l then some (a : Int) else none := by
  rw [rn_some h, hb]; rfl
theorem rn_neg {l : List UInt8} {a : Nat} (h : scan (Lib.trimPrefix l [45]) 0 = some a) (hb : Lib.hasPrefix l [45] = true) : readNum l = if Lib.itoa (-(a : Int)) = l then some (-(a : Int)) else none := by
  rw [rn_some h, hb]; rfl
theorem fin_some {l : List UInt8} {r : Option Int} {n : Int} (h : readNum l = if Lib.itoa n = l then some n else none) (hr : readNum l = r) (he : Lib.itoa n = l) : n = r.getD 0 ∧ true = r.isSome := by
  rw [h, if_pos he] at hr; subst hr; exact ⟨rfl, rfl⟩
theorem fin_none {l : List UInt8} {r : Option Int} {n : Int} (h : readNum l = if Lib.itoa n = l then some n else none) (hr : readNum l = r) (he : ¬ Lib.itoa n = l) : (0 : Int) = r.getD 0 ∧ false = r.isSome := by
  rw [h, if_neg he] at hr; subst hr; exact ⟨rfl, rfl⟩
theorem dg_true {c : Int} (h : 48 ≤ c ∧ c ≤ 57) : digit c = true := by simp [digit, h]
theorem dg_false {c : Int} (h : ¬ (48 ≤ c ∧ c ≤ 57)) : digit c = false := by
  rw [Bool.eq_false_iff]; simp only [digit, ne_eq, Bool.and_eq_true, decide_eq_true_eq]; exact h

set_option maxHeartbeats 1000000 in
theorem read_number (t : ByteArray) (w : World) (ht : t.size ≤ maxLen) (htab : Lib.TabIs Tryz.prog w "internal/strconv.uint64pow10" .u64 Lib.pow10Tab) (r : Option Int) (hr : readNum t.data.toList = r) :
    Calls Tryz.prog 95 #[.string t] w fun e w' => e = .returned (.tuple #[.int .i64 (r.getD 0), .bool r.isSome]) ∧ Below w.heap.size w w' := by
  unfold maxLen at ht
  have Hr : Hid (readNum t.data.toList = r) := hr
  have Htab : Hid (Lib.TabIs Tryz.prog w "internal/strconv.uint64pow10" .u64 Lib.pow10Tab) := htab
  clear hr htab
  go_enter Tryz.func95, Tryz.ntmps95
  go_wp2_with fail
  refine (Tryz.strings_CutPrefix _ _ _).mono ?_
  rintro e w ⟨rfl, rfl⟩
  go_wp2_with fail
  obtain ⟨d, hd⟩ : ∃ d : ByteArray, d = ⟨(Lib.trimPrefix t.data.toList [45]).toArray⟩ := ⟨_, rfl⟩
  have Hd : Hid (d.data.toList = Lib.trimPrefix t.data.toList [45]) := (show d.data.toList = _ by rw [hd])
  have hds : d.size ≤ 9223372036854775807 := by have := trim_len t.data.toList [45]; rw [len_of] at this; rw [← len_of, Hd.out]; omega
  rw [← hd]
  clear hd
  go_loopw [6, 8] (fun n _ w' => ∃ pos a : Nat, w' = w.iter d pos ∧ pos ≤ d.size ∧ n = .int .i64 a ∧ a ≤ 999 ∧ Hid (scan (d.data.toList.drop pos) a = scan d.data.toList 0)) (fun _ _ w' => d.size - w'.iterPos w.heap.size)
  case atStart => exact ⟨0, 0, rfl, Nat.zero_le _, rfl, by omega, (rfl : scan (d.data.toList.drop 0) 0 = scan d.data.toList 0)⟩
  case round =>
    obtain ⟨pos, a, rfl, hpos, rfl, ha, Hs⟩ := hrel
    by_cases hp : pos < d.size
    · by_cases h128 : d[pos].toNat < 128
      · have hnx : ∀ ty, (Instr.next (.pointer (some ⟨w.heap.size, 0, none⟩)) true ty).run Tryz.prog (w.iter d pos) = _ := fun ty => run_next_ascii w d pos ty hp h128
        by_cases hdg : 48 ≤ d[pos].toNat ∧ d[pos].toNat ≤ 57
        · have h48 : (48 : Int) ≤ d[pos].toNat := by omega
          have h57 : (d[pos].toNat : Int) ≤ 57 := by omega
          have hdi : digit (d[pos].toNat : Int) = true := dg_true (by omega)
          by_cases hbig : 999 < a * 10 + (d[pos].toNat - 48)
          · have hbig' : (999 : Int) < 10 * a + (d[pos].toNat - 48) := by omega
            have Hn : Hid ((0 : Int) = r.getD 0 ∧ false = r.isSome) := pair_none (rn_none (by rw [← Hd.out, ← Hs.out]; exact sc_big d pos a hp hbig)) Hr.out
            go_wp2_with (go_at_call 132; refine (digit_ok _ _).mono ?_; rintro e w' ⟨rfl, rfl⟩)
            go_ret2
            exact ⟨ret_pair Hn.out.1 Hn.out.2, (Below.refl _ _).alloc (Nat.le_refl _) _⟩
          · have hbig' : ¬ (999 : Int) < 10 * a + (d[pos].toNat - 48) := by omega
            go_wp2_with (go_at_call 132; refine (digit_ok _ _).mono ?_; rintro e w' ⟨rfl, rfl⟩)
            go_roundw
            case rel => exact ⟨pos + 1, a * 10 + (d[pos].toNat - 48), rfl, by omega, ints_eq (by omega), by omega, (by rw [← Hs.out, sc_next d pos a hp (dig_true hdg) hbig] : scan (d.data.toList.drop (pos + 1)) (a * 10 + (d[pos].toNat - 48)) = scan d.data.toList 0)⟩
            case measure => simp; omega
        · have hdi : digit (d[pos].toNat : Int) = false := dg_false (by omega)
          have Hn : Hid ((0 : Int) = r.getD 0 ∧ false = r.isSome) := pair_none (rn_none (by rw [← Hd.out, ← Hs.out]; exact sc_stop d pos a hp (dig_false hdg))) Hr.out
          go_wp2_with (go_at_call 132; refine (digit_ok _ _).mono ?_; rintro e w' ⟨rfl, rfl⟩)
          go_ret2
          exact ⟨ret_pair Hn.out.1 Hn.out.2, (Below.refl _ _).alloc (Nat.le_refl _) _⟩
      · have hnx : ∀ ty, (Instr.next (.pointer (some ⟨w.heap.size, 0, none⟩)) true ty).run Tryz.prog (w.iter d pos) = _ := fun ty => run_next_any w d pos ty hp
        have hh := (decode_high d pos hp (by omega)).1
        have hdi : digit ((Utf8.decode d pos).1 : Int) = false := dg_false (by omega)
        have Hn : Hid ((0 : Int) = r.getD 0 ∧ false = r.isSome) := pair_none (rn_none (by rw [← Hd.out, ← Hs.out]; exact sc_stop d pos a hp (dig_false (by omega)))) Hr.out
        go_wp2_with (go_at_call 132; refine (digit_ok _ _).mono ?_; rintro e w' ⟨rfl, rfl⟩)
        go_ret2
        exact ⟨ret_pair Hn.out.1 Hn.out.2, (Below.refl _ _).alloc (Nat.le_refl _) _⟩
    · have hnx : ∀ ty, (Instr.next (.pointer (some ⟨w.heap.size, 0, none⟩)) true ty).run Tryz.prog (w.iter d pos) = _ := fun ty => run_next_end w d pos ty hp
      have Hsc : Hid (scan (Lib.trimPrefix t.data.toList [45]) 0 = some a) := (by rw [← Hd.out, ← Hs.out, drop_end d pos hp]; rfl)
      have hbe : Below w.heap.size w (w.iter d pos) := (Below.refl _ _).alloc (Nat.le_refl _) _
      have Ht2 : Hid (Lib.TabIs Tryz.prog (w.iter d pos) "internal/strconv.uint64pow10" .u64 Lib.pow10Tab) := Joins.tab_stays Tab.global Htab.out hbe (Nat.le_refl _)
      cases hbw : Lib.hasPrefix t.data.toList [45]
      · have HR : Hid (readNum t.data.toList = if Lib.itoa ((a : Int)) = t.data.toList then some ((a : Int)) else none) := rn_pos Hsc.out hbw
        by_cases he : Lib.itoa ((a : Int)) = t.data.toList
        · have Hf : Hid (((a : Int)) = r.getD 0 ∧ true = r.isSome) := fin_some HR.out Hr.out he
          go_wp2_with fail
          refine (Tryz.strconv_Itoa _ (by omega) (by omega) _ Ht2.out).mono ?_
          rintro e w2 ⟨rfl, q, os, rfl⟩
          go_wp2_with fail
          go_ret2
          exact ⟨ret_pair Hf.out.1 Hf.out.2, hbe.trans ((below_grow _ _ _).mono hbe.size)⟩
        · have hne : (Lib.itoa ((a : Int)) == t.toList) = false := by
            rw [beq_eq_false_iff_ne]; intro h; exact he (by rw [h, Lib.toList_data])
          have Hf : Hid ((0 : Int) = r.getD 0 ∧ false = r.isSome) := fin_none HR.out Hr.out he
          clear he
          go_wp2_with fail
          refine (Tryz.strconv_Itoa _ (by omega) (by omega) _ Ht2.out).mono ?_
          rintro e w2 ⟨rfl, q, os, rfl⟩
          go_wp2_with fail
          go_ret2
          exact ⟨ret_pair Hf.out.1 Hf.out.2, hbe.trans ((below_grow _ _ _).mono hbe.size)⟩
      · have HR : Hid (readNum t.data.toList = if Lib.itoa (-(a : Int)) = t.data.toList then some (-(a : Int)) else none) := rn_neg Hsc.out hbw
        by_cases he : Lib.itoa (-(a : Int)) = t.data.toList
        · have Hf : Hid ((-(a : Int)) = r.getD 0 ∧ true = r.isSome) := fin_some HR.out Hr.out he
          go_wp2_with fail
          refine (Tryz.strconv_Itoa _ (by omega) (by omega) _ Ht2.out).mono ?_
          rintro e w2 ⟨rfl, q, os, rfl⟩
          go_wp2_with fail
          go_ret2
          exact ⟨ret_pair Hf.out.1 Hf.out.2, hbe.trans ((below_grow _ _ _).mono hbe.size)⟩
        · have hne : (Lib.itoa (-(a : Int)) == t.toList) = false := by
            rw [beq_eq_false_iff_ne]; intro h; exact he (by rw [h, Lib.toList_data])
          have Hf : Hid ((0 : Int) = r.getD 0 ∧ false = r.isSome) := fin_none HR.out Hr.out he
          clear he
          go_wp2_with fail
          refine (Tryz.strconv_Itoa _ (by omega) (by omega) _ Ht2.out).mono ?_
          rintro e w2 ⟨rfl, q, os, rfl⟩
          go_wp2_with fail
          go_ret2
          exact ⟨ret_pair Hf.out.1 Hf.out.2, hbe.trans ((below_grow _ _ _).mono hbe.size)⟩

end Go.Proofs.YtpcfebekkgfpjaaGreatDoor

/- Contracts of impl.ValText and of spec.ValText at every value, over the seat's translation; the table of powers of ten is as the program's text lays it. -/
namespace Go.Proofs.YtpcfebekkgfpjaaGreatDoor
open Go.RowKit

def textV (k n : Int) (s : ByteArray) : List UInt8 :=
  if valOk k n s then (if k = 0 then [110, 111, 110, 101] else if k = 1 then Lib.itoa n else 39 :: (s.data.toList ++ [39])) else []

theorem m_num_text (n : Int) (w : World) : (method 517 187 (.int .i64 n) "loop.example/custumal/impl.text").run Tryz.prog w = .ok (271, .int .i64 n) w := by kernel_rfl
theorem m_text_text (s : ByteArray) (w : World) : (method 517 185 (.string s) "loop.example/custumal/impl.text").run Tryz.prog w = .ok (269, .string s) w := by kernel_rfl
theorem m_none_text (w : World) : (method 517 280 (.agg #[]) "loop.example/custumal/impl.text").run Tryz.prog w = .ok (276, .agg #[]) w := by kernel_rfl

theorem none_text (w : World) : Calls Tryz.prog 276 #[.agg #[]] w fun e w' => e = .returned (.string ⟨#[110, 111, 110, 101]⟩) ∧ Below w.heap.size w w' := by
  go_enter Tryz.func276, Tryz.ntmps276
  go_wp2
  go_ret
  exact ⟨rfl, (Below.refl _ _).alloc (Nat.le_refl _) _⟩

theorem quote_text (s : ByteArray) (w : World) (hs : s.size ≤ 4) : Calls Tryz.prog 269 #[.string s] w fun e w' => e = .returned (.string ⟨(39 :: (s.data.toList ++ [39])).toArray⟩) ∧ w' = w := by
  go_enter Tryz.func269, Tryz.ntmps269
  go_wp2
  go_ret
  refine ⟨ret_str ?_, rfl⟩
  apply ByteArray.ext
  simp

theorem num_text (n : Int) (w : World) (h0 : -999 ≤ n) (h1 : n ≤ 999) (htab : Lib.TabIs Tryz.prog w "internal/strconv.uint64pow10" .u64 Lib.pow10Tab) : Calls Tryz.prog 271 #[.int .i64 n] w fun e w' => e = .returned (.string ⟨(Lib.itoa n).toArray⟩) ∧ Below w.heap.size w w' := by
  have Htab : Hid (Lib.TabIs Tryz.prog w "internal/strconv.uint64pow10" .u64 Lib.pow10Tab) := htab
  clear htab
  go_enter Tryz.func271, Tryz.ntmps271
  go_wp2_with fail
  refine (Tryz.strconv_Itoa _ (by omega) (by omega) _ Htab.out).mono ?_
  rintro e w2 ⟨rfl, q, os, rfl⟩
  go_wp2_with fail
  go_ret
  exact ⟨rfl, below_grow _ _ _⟩

theorem textV_no {k n : Int} {s : ByteArray} (h : valOk k n s = false) : textV k n s = [] := by unfold textV; rw [h]; rfl

/-- A value that is not right has the empty text. -/
theorem impl_text_no (k n : Int) (s : ByteArray) (w : World) (T : TypeId) (v : Value) (hv : ∀ w, Calls Tryz.prog 228 #[.agg #[.int .i64 k, .int .i64 n, .string s]] w fun e w' => e = .returned (.tuple #[.iface T v, .bool false]) ∧ Below w.heap.size w w') :
    Calls Tryz.prog 226 #[.agg #[.int .i64 k, .int .i64 n, .string s]] w fun e w' => e = .returned (.string ⟨#[]⟩) ∧ Below w.heap.size w w' := by
  have Hv : Hid (∀ w, Calls Tryz.prog 228 #[.agg #[.int .i64 k, .int .i64 n, .string s]] w fun e w' => e = .returned (.tuple #[.iface T v, .bool false]) ∧ Below w.heap.size w w') := hv
  clear hv
  go_enter Tryz.func226, Tryz.ntmps226
  go_wp2_with fail
  refine (Hv.out _).mono ?_
  rintro e w1 ⟨rfl, hb⟩
  go_wp2_with fail
  go_ret
  exact ⟨rfl, ((Below.refl _ _).alloc (Nat.le_refl _) _).trans (hb.mono (by simp))⟩

set_option maxHeartbeats 400000 in
theorem impl_text (k n : Int) (s : ByteArray) (w : World) (hs : s.size ≤ maxLen) (htab : Lib.TabIs Tryz.prog w "internal/strconv.uint64pow10" .u64 Lib.pow10Tab) :
    Calls Tryz.prog 226 #[.agg #[.int .i64 k, .int .i64 n, .string s]] w fun e w' => e = .returned (.string ⟨(textV k n s).toArray⟩) ∧ Below w.heap.size w w' := by
  cases hok : valOk k n s
  · rw [textV_no hok]
    by_cases h0 : k = 0
    · subst h0; exact impl_text_no 0 n s w _ _ (fun w => by have := value_none n s w; rw [hok] at this; exact this)
    · by_cases h1 : k = 1
      · subst h1; exact impl_text_no 1 n s w _ _ (fun w => by have := value_num n s w; rw [hok] at this; exact this)
      · by_cases h2 : k = 2
        · subst h2; exact impl_text_no 2 n s w _ _ (fun w => by have := value_text n s w hs; rw [hok] at this; exact this)
        · exact impl_text_no k n s w _ _ (fun w => by have := value_other k n s w (beq_eq_false_iff_ne.2 h0) (beq_eq_false_iff_ne.2 h1) (beq_eq_false_iff_ne.2 h2); rw [hok] at this; exact this)
  · have Htab : Hid (Lib.TabIs Tryz.prog w "internal/strconv.uint64pow10" .u64 Lib.pow10Tab) := htab
    clear htab
    by_cases h0 : k = 0
    · subst h0
      have e0 : textV 0 n s = [110, 111, 110, 101] := by unfold textV; rw [hok]; rfl
      rw [e0]
      have hm := m_none_text
      have Hok : Hid (valOk 0 n s = true) := hok
      clear hok e0
      go_enter Tryz.func226, Tryz.ntmps226
      go_wp2_with fail
      refine (value_none _ _ _).mono ?_
      rintro e w1 ⟨rfl, hb⟩
      rw [Hok.out]
      have Hb : Hid (Below w.heap.size w w1) := ((Below.refl _ _).alloc (Nat.le_refl _) _).trans (hb.mono (by simp))
      clear hb
      go_wp2_with fail
      refine (none_text _).mono ?_
      rintro e w2 ⟨rfl, hb⟩
      go_wp2_with fail
      go_ret
      exact ⟨rfl, Hb.out.trans (hb.mono Hb.out.size)⟩
    · by_cases h1 : k = 1
      · subst h1
        have e0 : textV 1 n s = Lib.itoa n := by unfold textV; rw [hok]; rfl
        rw [e0]
        have hr : -999 ≤ n ∧ n ≤ 999 := by simp [valOk] at hok; simpa [numOk] using hok.2
        have hm := m_num_text n
        have Hok : Hid (valOk 1 n s = true) := hok
        clear hok e0
        go_enter Tryz.func226, Tryz.ntmps226
        go_wp2_with fail
        refine (value_num _ _ _).mono ?_
        rintro e w1 ⟨rfl, hb⟩
        rw [Hok.out]
        have Hb : Hid (Below w.heap.size w w1) := ((Below.refl _ _).alloc (Nat.le_refl _) _).trans (hb.mono (by simp))
        clear hb
        go_wp2_with fail
        refine (num_text _ _ hr.1 hr.2 (Joins.tab_stays Tab.global Htab.out Hb.out (Nat.le_refl _))).mono ?_
        rintro e w2 ⟨rfl, hb⟩
        go_wp2_with fail
        go_ret
        exact ⟨rfl, Hb.out.trans (hb.mono Hb.out.size)⟩
      · have h2 : k = 2 := by
          unfold valOk at hok
          rw [if_neg h0, if_neg h1] at hok
          by_cases h2 : k = 2
          · exact h2
          · rw [if_neg h2] at hok; cases hok
        subst h2
        have e0 : textV 2 n s = 39 :: (s.data.toList ++ [39]) := by unfold textV; rw [hok]; rfl
        rw [e0]
        have h4 : s.size ≤ 4 := by simp [valOk, textOk] at hok; exact hok.2.2
        have hm := m_text_text s
        have Hok : Hid (valOk 2 n s = true) := hok
        clear hok e0 h0 h1
        go_enter Tryz.func226, Tryz.ntmps226
        go_wp2_with fail
        refine (value_text _ _ _ hs).mono ?_
        rintro e w1 ⟨rfl, hb⟩
        rw [Hok.out]
        have Hb : Hid (Below w.heap.size w w1) := ((Below.refl _ _).alloc (Nat.le_refl _) _).trans (hb.mono (by simp))
        clear hb
        go_wp2_with fail
        refine (quote_text _ _ h4).mono ?_
        rintro e w2 ⟨rfl, rfl⟩
        go_wp2_with fail
        go_ret
        exact ⟨rfl, Hb.out⟩

set_option maxHeartbeats 400000 in
theorem spec_text_no (k n : Int) (s : ByteArray) (w : World) (hs : s.size ≤ maxLen) (hok : valOk k n s = false) :
    Calls Tryz.prog 60 #[.agg #[.int .i64 k, .int .i64 n, .string s]] w fun e w' => e = .returned (.string ⟨#[]⟩) ∧ Below w.heap.size w w' := by
  go_enter Tryz.func60, Tryz.ntmps60
  go_wp2_with fail
  refine (spec_ok _ _ _ _ hs).mono ?_
  rintro e w1 ⟨rfl, hb⟩
  go_wp2_with fail
  go_ret
  exact ⟨rfl, ((Below.refl _ _).alloc (Nat.le_refl _) _).trans (hb.mono (by simp))⟩

set_option maxHeartbeats 400000 in
theorem spec_text_none (w : World) :
    Calls Tryz.prog 60 #[.agg #[.int .i64 0, .int .i64 0, .string ⟨#[]⟩]] w fun e w' => e = .returned (.string ⟨#[110, 111, 110, 101]⟩) ∧ Below w.heap.size w w' := by
  have hok : valOk 0 0 ⟨#[]⟩ = true := by simp [valOk]
  have hB := held_box w 0 0 ⟨#[]⟩ 26
  go_enter Tryz.func60, Tryz.ntmps60
  go_wp2_with fail
  refine (spec_ok _ _ _ _ (by decide)).mono ?_
  rintro e w1 ⟨rfl, hb⟩
  have h1 := held_next hB hb
  clear hB hb
  go_wp2_with fail
  go_ret
  exact ⟨rfl, h1.2.2.2.2⟩

theorem bytes_nil {s : ByteArray} (h : s.toList = []) : s = ⟨#[]⟩ := by
  rw [ByteArray.toList_eq] at h
  cases s
  simp at h
  rw [h]

theorem spec_text (k n : Int) (s : ByteArray) (w : World) (hs : s.size ≤ maxLen) :
    Calls Tryz.prog 60 #[.agg #[.int .i64 k, .int .i64 n, .string s]] w fun e w' => e = .returned (.string ⟨(textV k n s).toArray⟩) ∧ Below w.heap.size w w' := by
  cases hok : valOk k n s
  · rw [textV_no hok]; exact spec_text_no k n s w hs hok
  · have hok' := hok
    unfold textV
    rw [hok]
    unfold valOk at hok'
    by_cases h0 : k = 0
    · subst h0
      rw [if_pos rfl, Bool.and_eq_true] at hok'
      have hn : n = 0 := by simpa using hok'.1
      have hl : s = ⟨#[]⟩ := bytes_nil (by simpa using hok'.2)
      subst hn hl
      exact spec_text_none w
    · rw [if_neg h0] at hok'
      by_cases h1 : k = 1
      · subst h1
        rw [if_pos rfl, Bool.and_eq_true] at hok'
        have hl : s = ⟨#[]⟩ := bytes_nil (by simpa using hok'.1)
        subst hl
        exact text_num n w hok'.2
      · rw [if_neg h1] at hok'
        by_cases h2 : k = 2
        · subst h2
          rw [if_pos rfl, Bool.and_eq_true] at hok'
          have hn : n = 0 := by simpa using hok'.1
          subst hn
          exact text_text s w hs hok'.2
        · rw [if_neg h2] at hok'; cases hok'

end Go.Proofs.YtpcfebekkgfpjaaGreatDoor
