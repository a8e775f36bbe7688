/- Contract of spec.l10Dec, over the seat's translation. -/
import Derived.Test.YtpcfebekkgfpjaaGreatDoorG01
import Derived.Test.YtpcfebekkgfpjaaGreatDoorG07
import Derived.Test.YtpcfebekkgfpjaaGreatDoorRows
import Derived.WalkKit
import Derived.WalkSpells
import Derived.WalkLawsBesides
import Derived.Deep.DeepCutAuto
namespace Go.Proofs.YtpcfebekkgfpjaaGreatDoor
open Go.RowKit

theorem ret_str {a b : ByteArray} (h : a = b) : Ending.returned (.string a) = .returned (.string b) := by rw [h]

theorem conv_byte (W : World) (x : Int) (c : UInt8) (h : (c.toNat : Int) = x) :
    (convert 22 9 (.slice (some ⟨W.heap.size, 0, none⟩) 1 1)).run Tryz.prog (W.alloc (.cells #[.int .u8 x] 5)) = .ok (.string ⟨#[c]⟩) (W.alloc (.cells #[.int .u8 x] 5)) :=
  run_convert_bytes_back _ _ _ 5 _ 1 [c] Tryz.underlying22 Tryz.underlying5 Tryz.underlying9 (fun j hj => by
    have : j = 0 := by simp at hj; omega
    subst this
    simp [Addr.add, go_sem, h])
theorem byte_of (k : Nat) (h : k < 10) : ((UInt8.ofNat (48 + k)).toNat : Int) = 48 + (k : Int) := by
  have : (UInt8.ofNat (48 + k)).toNat = 48 + k := by simp; omega
  omega

theorem cat_one (c : UInt8) (l : List UInt8) : ({ data := #[c] } ++ { data := l.toArray } : ByteArray) = ⟨(c :: l).toArray⟩ := by
  apply ByteArray.ext
  simp
theorem dec_len {n m : Nat} {l : List UInt8} (h : n ≤ 999) (hd : Lib.decDigits n = Lib.decDigits m ++ l) : l.length ≤ 3 := by
  have h1 := congrArg List.length hd
  rw [dec_decL n (by omega), List.length_append] at h1
  have h2 : (decL n).length ≤ 3 := by unfold decL; split <;> (try split) <;> simp
  omega

set_option maxHeartbeats 400000 in
theorem dec_pos (n : Nat) (w : World) (hn : n ≤ 999) :
    Calls Tryz.prog 24 #[.int .i64 n] w fun e w' => e = .returned (.string ⟨(Lib.decDigits n).toArray⟩) ∧ Below w.heap.size w w' := by
  go_enter Tryz.func24, Tryz.ntmps24
  go_wp2
  go_loopw [0, 3] (fun i o w' => ∃ (m : Nat) (l : List UInt8), m ≤ 999 ∧ i = .int .i64 m ∧ o = .string ⟨l.toArray⟩ ∧ Hid (Lib.decDigits n = Lib.decDigits m ++ l) ∧ Below w.heap.size w w') (fun i _ _ => (intOf i).toNat)
  case atStart => exact ⟨n, [], hn, rfl, rfl, (by simp : Lib.decDigits n = Lib.decDigits n ++ []), Below.refl _ _⟩
  case round =>
    obtain ⟨m, l, hm, rfl, rfl, hd, hb⟩ := hrel
    by_cases h9 : (9 : Int) < m
    · obtain ⟨c, hc⟩ : ∃ c : UInt8, c = UInt8.ofNat (48 + m % 10) := ⟨_, rfl⟩
      have hcv := conv_byte wr (48 + (m : Int) % 10) c (by rw [hc, byte_of _ (by omega)]; omega)
      have hl : l.length ≤ 3 := dec_len hn hd.out
      have Hc : Hid (c = UInt8.ofNat (48 + m % 10)) := hc
      clear hc
      go_wp2
      go_roundw
      case rel =>
        refine ⟨m / 10, c :: l, by omega, by go_num, by rw [cat_one], ?_, hb.alloc hb.size _⟩
        show Lib.decDigits n = _
        rw [hd.out, dec_step m (by omega), Hc.out]; simp
      case measure => simp [intOf]; omega
    · obtain ⟨c, hc⟩ : ∃ c : UInt8, c = UInt8.ofNat (48 + m) := ⟨_, rfl⟩
      have hcv := conv_byte wr (48 + (m : Int)) c (by rw [hc, byte_of _ (by omega)])
      have hl : l.length ≤ 3 := dec_len hn hd.out
      have Hc : Hid (c = UInt8.ofNat (48 + m)) := hc
      clear hc
      go_wp2
      go_ret
      refine ⟨ret_str ?_, hb.alloc hb.size _⟩
      rw [cat_one, hd.out, dec_small m (by omega), Hc.out]; rfl

set_option maxHeartbeats 400000 in
theorem dec_any (n : Int) (w : World) (h0 : -999 ≤ n) (h1 : n ≤ 999) :
    Calls Tryz.prog 24 #[.int .i64 n] w fun e w' => e = .returned (.string ⟨(Lib.itoa n).toArray⟩) ∧ Below w.heap.size w w' := by
  by_cases h : n < 0
  · have e := itoa_neg h h0
    obtain ⟨m, hm⟩ : ∃ m : Nat, n = -(m : Int) := ⟨n.natAbs, by omega⟩
    subst hm
    have ha : (-(m : Int)).natAbs = m := by omega
    have hd := dec_decL m (by omega)
    rw [e, ha, ← hd]
    have hl : (Lib.decDigits m).length ≤ 3 := by rw [hd]; unfold decL; split <;> (try split) <;> simp
    have Hh : Hid (m ≤ 999) := (show m ≤ 999 by omega)
    clear e ha hd
    go_enter Tryz.func24, Tryz.ntmps24
    go_wp2_with fail
    refine (dec_pos m _ Hh.out).mono ?_
    rintro e w' ⟨rfl, hb⟩
    go_wp2_with fail
    go_ret
    refine ⟨ret_str ?_, hb⟩
    rw [cat_one]
  · obtain ⟨m, hm⟩ := Int.eq_ofNat_of_zero_le (show 0 ≤ n by omega)
    subst hm
    have e : Lib.itoa (m : Int) = Lib.decDigits m := by unfold Lib.itoa; rw [if_neg (by omega)]; rfl
    rw [e]
    exact dec_pos m w (by omega)

end Go.Proofs.YtpcfebekkgfpjaaGreatDoor

/- Contracts of spec.ValText at a right number and at a right text, and of spec.l10Num, over the seat's translation. -/
namespace Go.Proofs.YtpcfebekkgfpjaaGreatDoor
open Go.RowKit

set_option maxHeartbeats 400000 in
theorem text_num (n : Int) (w : World) (hn : numOk n = true) :
    Calls Tryz.prog 60 #[.agg #[.int .i64 1, .int .i64 n, .string ⟨#[]⟩]] w fun e w' => e = .returned (.string ⟨(Lib.itoa n).toArray⟩) ∧ Below w.heap.size w w' := by
  have hv : valOk 1 n ⟨#[]⟩ = true := by simp [valOk, hn]
  have hr : -999 ≤ n ∧ n ≤ 999 := by simpa [numOk] using hn
  have hB := held_box w 1 n ⟨#[]⟩ 26
  go_enter Tryz.func60, Tryz.ntmps60
  go_wp2_with fail
  refine (spec_ok _ _ _ _ (by decide)).mono ?_
  rintro e w1 ⟨rfl, hb⟩
  have h1 := held_next hB hb
  clear hB hb
  go_wp2_with fail
  refine (dec_any _ _ hr.1 hr.2).mono ?_
  rintro e w2 ⟨rfl, hb⟩
  have h2 := held_next h1 hb
  clear h1 hb
  go_wp2_with fail
  go_ret
  exact ⟨rfl, h2.2.2.2.2⟩

set_option maxHeartbeats 400000 in
theorem text_text (s : ByteArray) (w : World) (hs : s.size ≤ maxLen) (ht : textOk s = true) :
    Calls Tryz.prog 60 #[.agg #[.int .i64 2, .int .i64 0, .string s]] w fun e w' => e = .returned (.string ⟨(39 :: (s.data.toList ++ [39])).toArray⟩) ∧ Below w.heap.size w w' := by
  have hv : valOk 2 0 s = true := by simp [valOk, ht]
  have h4 : s.size ≤ 4 := by simp [textOk] at ht; exact ht.2
  have hB := held_box w 2 0 s 26
  go_enter Tryz.func60, Tryz.ntmps60
  go_wp2_with fail
  refine (spec_ok _ _ _ _ hs).mono ?_
  rintro e w1 ⟨rfl, hb⟩
  have h1 := held_next hB hb
  clear hB hb
  go_wp2_with fail
  go_ret
  refine ⟨ret_str ?_, h1.2.2.2.2⟩
  apply ByteArray.ext
  simp

end Go.Proofs.YtpcfebekkgfpjaaGreatDoor

/- Contract of spec.l10Num, over the seat's translation. -/
namespace Go.Proofs.YtpcfebekkgfpjaaGreatDoor
open Go.RowKit

theorem ret_pair {a b : Int} {c d : Bool} (h : a = b) (h' : c = d) : Ending.returned (.tuple #[.int .i64 a, .bool c]) = .returned (.tuple #[.int .i64 b, .bool d]) := by rw [h, h']

theorem numS_bad {neg : Bool} {l : List UInt8} {r : Int × Bool} (hr : numS neg l = r) (h : l.length = 0 ∨ 17 < l.length ∨ (l.head? = some 48 ∧ (1 < l.length ∨ neg = true))) : (0 : Int) = r.1 ∧ false = r.2 := by
  unfold numS at hr; rw [if_pos h] at hr; subst hr; exact ⟨rfl, rfl⟩
theorem numS_good {neg : Bool} {l : List UInt8} {r : Int × Bool} {a : Nat} (hr : numS neg l = r) (h : ¬ (l.length = 0 ∨ 17 < l.length ∨ (l.head? = some 48 ∧ (1 < l.length ∨ neg = true)))) (hs : numScan l 0 = some a) : (if neg then -(a : Int) else (a : Int)) = r.1 ∧ true = r.2 := by
  unfold numS at hr; rw [if_neg h, hs] at hr; subst hr; exact ⟨rfl, rfl⟩
theorem numS_none {neg : Bool} {l : List UInt8} {r : Int × Bool} (hr : numS neg l = r) (hs : numScan l 0 = none) : (0 : Int) = r.1 ∧ false = r.2 := by
  unfold numS at hr; rw [hs] at hr
  by_cases h : l.length = 0 ∨ 17 < l.length ∨ (l.head? = some 48 ∧ (1 < l.length ∨ neg = true))
  · rw [if_pos h] at hr; subst hr; exact ⟨rfl, rfl⟩
  · rw [if_neg h] at hr; subst hr; exact ⟨rfl, rfl⟩

theorem drop_cons (s : ByteArray) (k : Nat) (h : k < s.size) : s.data.toList.drop k = s[k] :: s.data.toList.drop (k + 1) := by
  rw [List.drop_eq_getElem_cons (by simpa using h)]; rfl
theorem drop_end (s : ByteArray) (k : Nat) (h : ¬ k < s.size) : s.data.toList.drop k = [] := List.drop_eq_nil_of_le (by simp; omega)
theorem head_of (s : ByteArray) (h : 0 < s.size) : s.data.toList.head? = some s[0] := by
  have := drop_cons s 0 h
  simp only [List.drop_zero] at this
  rw [this]; rfl
theorem len_of (s : ByteArray) : s.data.toList.length = s.size := by simp
theorem dig_true {c : UInt8} (h : 48 ≤ c.toNat ∧ c.toNat ≤ 57) : dig c = true := by simp [dig, h]
theorem dig_false {c : UInt8} (h : ¬ (48 ≤ c.toNat ∧ c.toNat ≤ 57)) : dig c = false := by
  rw [Bool.eq_false_iff]; simp only [dig, ne_eq, Bool.and_eq_true, decide_eq_true_eq]; exact h
theorem pow_16 {a k : Nat} (h : a < 10 ^ k) (hk : k ≤ 16) : a < 10000000000000000 :=
  Nat.lt_of_lt_of_le h (by have := Nat.pow_le_pow_right (n := 10) (by decide) hk; simpa using this)
theorem pow_17 {a k : Nat} (h : a < 10 ^ k) (hk : k ≤ 17) : a < 100000000000000000 :=
  Nat.lt_of_lt_of_le h (by have := Nat.pow_le_pow_right (n := 10) (by decide) hk; simpa using this)
theorem pow_next {a k d : Nat} (h : a < 10 ^ k) (hd : d ≤ 9) : a * 10 + d < 10 ^ (k + 1) := by
  rw [Nat.pow_succ]; omega
theorem ints_eq {a b : Int} (h : a = b) : Value.int IntKind.i64 a = Value.int IntKind.i64 b := by rw [h]
theorem scan_next (s : ByteArray) (k a : Nat) (h : k < s.size) (hd : dig s[k] = true) : numScan (s.data.toList.drop k) a = numScan (s.data.toList.drop (k + 1)) (a * 10 + (s[k].toNat - 48)) := by
  rw [drop_cons s k h]; simp [numScan, hd]
theorem scan_stop (s : ByteArray) (k a : Nat) (h : k < s.size) (hd : dig s[k] = false) : numScan (s.data.toList.drop k) a = none := by
  rw [drop_cons s k h]; simp [numScan, hd]

set_option maxHeartbeats 1000000 in
theorem num_neg (t : ByteArray) (w : World) (ht : t.size ≤ maxLen) (h0 : 0 < t.size) (hc : (t[0].toNat : Int) = 45) (r : Int × Bool) (hr : numS true (t.extract 1 t.size).data.toList = r) :
    Calls Tryz.prog 78 #[.string t] w fun e w' => e = .returned (.tuple #[.int .i64 r.1, .bool r.2]) ∧ w' = w := by
  unfold maxLen at ht
  have hc' : ((t[0].toNat : Int) == 45) = true := beq_iff_eq.2 hc
  have hz : (0 : Int) < t.size := by omega
  have Hr : Hid (numS true (t.extract 1 t.size).data.toList = r) := hr
  have hsz : (t.extract 1 t.size).size ≤ 9223372036854775807 := by simp; omega
  clear hr
  go_enter Tryz.func78, Tryz.ntmps78
  go_upto_region 4 with (fail)
  clear hc' hz hc
  generalize t.extract 1 t.size = s at Hr hsz ⊢
  by_cases hb : s.size = 0 ∨ 17 < s.size
  · have Hb : Hid ((0 : Int) = r.1 ∧ false = r.2) := numS_bad Hr.out (by rw [len_of]; omega)
    rcases hb with h1 | h1
    · have h2 : ((s.size : Int) == 0) = true := beq_iff_eq.2 (by omega)
      clear h1
      go_wp2
      go_ret2
      exact ⟨ret_pair Hb.out.1 Hb.out.2, rfl⟩
    · have h2 : ((s.size : Int) == 0) = false := beq_eq_false_iff_ne.2 (by omega)
      have h3 : (17 : Int) < s.size := by omega
      go_wp2
      go_ret2
      exact ⟨ret_pair Hb.out.1 Hb.out.2, rfl⟩
  · have hp : 0 < s.size := by omega
    have hp' : (0 : Int) < s.size := by omega
    have h17 : (s.size : Int) ≤ 17 := by omega
    have h2 : ((s.size : Int) == 0) = false := beq_eq_false_iff_ne.2 (by omega)
    by_cases h48 : (s[0].toNat : Int) = 48
    · have h48' : ((s[0].toNat : Int) == 48) = true := beq_iff_eq.2 h48
      have Hb : Hid ((0 : Int) = r.1 ∧ false = r.2) := numS_bad Hr.out (by rw [len_of, head_of s hp]; right; right; exact ⟨by rw [Option.some.injEq]; apply UInt8.toNat_inj.1; simpa using (show s[0].toNat = 48 by omega), Or.inr rfl⟩)
      clear h48
      by_cases h1 : (1 : Int) < s.size
      · go_wp2
        go_ret2
        exact ⟨ret_pair Hb.out.1 Hb.out.2, rfl⟩
      · go_wp2
        go_ret2
        exact ⟨ret_pair Hb.out.1 Hb.out.2, rfl⟩
    · have h48' : ((s[0].toNat : Int) == 48) = false := beq_eq_false_iff_ne.2 h48
      have Hg : Hid (¬ (s.data.toList.length = 0 ∨ 17 < s.data.toList.length ∨ (s.data.toList.head? = some 48 ∧ (1 < s.data.toList.length ∨ true = true)))) := (by
        rw [len_of, head_of s hp]
        rintro (h | h | ⟨h, _⟩)
        · omega
        · omega
        · rw [Option.some.injEq] at h
          rw [h] at h48
          exact h48 rfl)
      clear h48
      go_wp2
      go_loop [5, 6] (fun n i => ∃ k a : Nat, k ≤ s.size ∧ i = .int .i64 k ∧ n = .int .i64 a ∧ Hid (a < 10 ^ k) ∧ Hid (numScan (s.data.toList.drop k) a = numScan s.data.toList 0)) (fun _ i => s.size - (intOf i).toNat)
      case atStart => exact ⟨0, 0, Nat.zero_le _, rfl, rfl, (by decide : (0 : Nat) < 10 ^ 0), (rfl : numScan (s.data.toList.drop 0) 0 = numScan s.data.toList 0)⟩
      case round =>
        obtain ⟨k, a, hk, rfl, rfl, Hp, Hs⟩ := hrel
        by_cases hlt : k < s.size
        · have ha : a < 10000000000000000 := pow_16 Hp.out (by omega)
          by_cases hd : 48 ≤ s[k].toNat ∧ s[k].toNat ≤ 57
          · have hd1 : (48 : Int) ≤ s[k].toNat := by omega
            have hd2 : (s[k].toNat : Int) ≤ 57 := by omega
            go_wp2
            go_round
            case rel => exact ⟨k + 1, a * 10 + (s[k].toNat - 48), by omega, by go_num, ints_eq (by omega), pow_next Hp.out (by omega), (by rw [← Hs.out, scan_next s k a hlt (dig_true hd)] : numScan (s.data.toList.drop (k + 1)) (a * 10 + (s[k].toNat - 48)) = numScan s.data.toList 0)⟩
            case measure => simp [intOf]; omega
          · have Hn : Hid ((0 : Int) = r.1 ∧ false = r.2) := numS_none Hr.out (by rw [← Hs.out]; exact scan_stop s k a hlt (dig_false hd))
            by_cases hd1 : (s[k].toNat : Int) < 48
            · go_wp2
              go_ret2
              exact ⟨ret_pair Hn.out.1 Hn.out.2, rfl⟩
            · have hd2 : (57 : Int) < s[k].toNat := by omega
              have hd3 : (48 : Int) ≤ s[k].toNat := by omega
              clear hd1
              go_wp2
              go_ret2
              exact ⟨ret_pair Hn.out.1 Hn.out.2, rfl⟩
        · have ha : a < 100000000000000000 := pow_17 Hp.out (by omega)
          have Hn := numS_good Hr.out (fun h => Hg.out (h.imp_right (fun h => h.imp_right (fun h => ⟨h.1, Or.inr trivial⟩)))) (by rw [← Hs.out, drop_end s k hlt]; rfl)
          have Hn' : Hid _ := Hn
          clear Hn
          go_wp2
          go_ret2
          exact ⟨ret_pair Hn'.out.1 Hn'.out.2, rfl⟩

set_option maxHeartbeats 1000000 in
theorem num_pos (s : ByteArray) (w : World) (ht : s.size ≤ maxLen) (hc : ∀ h : 0 < s.size, ¬ (s[0].toNat : Int) = 45) (r : Int × Bool) (hr : numS false s.data.toList = r) :
    Calls Tryz.prog 78 #[.string s] w fun e w' => e = .returned (.tuple #[.int .i64 r.1, .bool r.2]) ∧ w' = w := by
  unfold maxLen at ht
  have Hr : Hid (numS false s.data.toList = r) := hr
  clear hr
  by_cases hb : s.size = 0 ∨ 17 < s.size
  · have Hb : Hid ((0 : Int) = r.1 ∧ false = r.2) := numS_bad Hr.out (by rw [len_of]; omega)
    rcases hb with h1 | h1
    · have h2 : ((s.size : Int) == 0) = true := beq_iff_eq.2 (by omega)
      have h3 : ¬ (0 : Int) < s.size := by omega
      clear h1 hc
      go_enter Tryz.func78, Tryz.ntmps78
      go_wp2
      go_ret2
      exact ⟨ret_pair Hb.out.1 Hb.out.2, rfl⟩
    · have h2 : ((s.size : Int) == 0) = false := beq_eq_false_iff_ne.2 (by omega)
      have h3 : (17 : Int) < s.size := by omega
      have h4 : (0 : Int) < s.size := by omega
      have hc' : ((s[0].toNat : Int) == 45) = false := beq_eq_false_iff_ne.2 (hc (by omega))
      clear hc
      go_enter Tryz.func78, Tryz.ntmps78
      go_wp2
      go_ret2
      exact ⟨ret_pair Hb.out.1 Hb.out.2, rfl⟩
  · have hp : 0 < s.size := by omega
    have hp' : (0 : Int) < s.size := by omega
    have h17 : (s.size : Int) ≤ 17 := by omega
    have h2 : ((s.size : Int) == 0) = false := beq_eq_false_iff_ne.2 (by omega)
    have hc' : ((s[0].toNat : Int) == 45) = false := beq_eq_false_iff_ne.2 (hc hp)
    clear hc
    by_cases h48 : (s[0].toNat : Int) = 48
    · have h48' : ((s[0].toNat : Int) == 48) = true := beq_iff_eq.2 h48
      by_cases h1 : (1 : Int) < s.size
      · have Hb : Hid ((0 : Int) = r.1 ∧ false = r.2) := numS_bad Hr.out (by rw [len_of, head_of s hp]; right; right; exact ⟨by rw [Option.some.injEq]; apply UInt8.toNat_inj.1; simpa using (show s[0].toNat = 48 by omega), Or.inl (by omega)⟩)
        clear h48
        go_enter Tryz.func78, Tryz.ntmps78
        go_wp2
        go_ret2
        exact ⟨ret_pair Hb.out.1 Hb.out.2, rfl⟩
      · have Hg : Hid (¬ (s.data.toList.length = 0 ∨ 17 < s.data.toList.length ∨ (s.data.toList.head? = some 48 ∧ (1 < s.data.toList.length ∨ false = true)))) := (by
          rw [len_of]
          rintro (h | h | ⟨_, h | h⟩)
          · omega
          · omega
          · omega
          · cases h)
        clear h48
        go_enter Tryz.func78, Tryz.ntmps78
        go_wp2
        go_loop [5, 6] (fun n i => ∃ k a : Nat, k ≤ s.size ∧ i = .int .i64 k ∧ n = .int .i64 a ∧ Hid (a < 10 ^ k) ∧ Hid (numScan (s.data.toList.drop k) a = numScan s.data.toList 0)) (fun _ i => s.size - (intOf i).toNat)
        case atStart => exact ⟨0, 0, Nat.zero_le _, rfl, rfl, (by decide : (0 : Nat) < 10 ^ 0), (rfl : numScan (s.data.toList.drop 0) 0 = numScan s.data.toList 0)⟩
        case round =>
          obtain ⟨k, a, hk, rfl, rfl, Hp, Hs⟩ := hrel
          by_cases hlt : k < s.size
          · have ha : a < 10000000000000000 := pow_16 Hp.out (by omega)
            by_cases hd : 48 ≤ s[k].toNat ∧ s[k].toNat ≤ 57
            · have hd1 : (48 : Int) ≤ s[k].toNat := by omega
              have hd2 : (s[k].toNat : Int) ≤ 57 := by omega
              go_wp2
              go_round
              case rel => exact ⟨k + 1, a * 10 + (s[k].toNat - 48), by omega, by go_num, ints_eq (by omega), pow_next Hp.out (by omega), (by rw [← Hs.out, scan_next s k a hlt (dig_true hd)] : numScan (s.data.toList.drop (k + 1)) (a * 10 + (s[k].toNat - 48)) = numScan s.data.toList 0)⟩
              case measure => simp [intOf]; omega
            · have Hn : Hid ((0 : Int) = r.1 ∧ false = r.2) := numS_none Hr.out (by rw [← Hs.out]; exact scan_stop s k a hlt (dig_false hd))
              by_cases hd1 : (s[k].toNat : Int) < 48
              · go_wp2
                go_ret2
                exact ⟨ret_pair Hn.out.1 Hn.out.2, rfl⟩
              · have hd2 : (57 : Int) < s[k].toNat := by omega
                have hd3 : (48 : Int) ≤ s[k].toNat := by omega
                clear hd1
                go_wp2
                go_ret2
                exact ⟨ret_pair Hn.out.1 Hn.out.2, rfl⟩
          · have ha : a < 100000000000000000 := pow_17 Hp.out (by omega)
            have Hn := numS_good Hr.out Hg.out (by rw [← Hs.out, drop_end s k hlt]; rfl)
            have Hn' : Hid _ := Hn
            clear Hn
            go_wp2
            go_ret2
            exact ⟨ret_pair Hn'.out.1 Hn'.out.2, rfl⟩
    · have h48' : ((s[0].toNat : Int) == 48) = false := beq_eq_false_iff_ne.2 h48
      have Hg : Hid (¬ (s.data.toList.length = 0 ∨ 17 < s.data.toList.length ∨ (s.data.toList.head? = some 48 ∧ (1 < s.data.toList.length ∨ false = true)))) := (by
        rw [len_of, head_of s hp]
        rintro (h | h | ⟨h, _⟩)
        · omega
        · omega
        · rw [Option.some.injEq] at h
          rw [h] at h48
          exact h48 rfl)
      clear h48
      go_enter Tryz.func78, Tryz.ntmps78
      go_wp2
      go_loop [5, 6] (fun n i => ∃ k a : Nat, k ≤ s.size ∧ i = .int .i64 k ∧ n = .int .i64 a ∧ Hid (a < 10 ^ k) ∧ Hid (numScan (s.data.toList.drop k) a = numScan s.data.toList 0)) (fun _ i => s.size - (intOf i).toNat)
      case atStart => exact ⟨0, 0, Nat.zero_le _, rfl, rfl, (by decide : (0 : Nat) < 10 ^ 0), (rfl : numScan (s.data.toList.drop 0) 0 = numScan s.data.toList 0)⟩
      case round =>
        obtain ⟨k, a, hk, rfl, rfl, Hp, Hs⟩ := hrel
        by_cases hlt : k < s.size
        · have ha : a < 10000000000000000 := pow_16 Hp.out (by omega)
          by_cases hd : 48 ≤ s[k].toNat ∧ s[k].toNat ≤ 57
          · have hd1 : (48 : Int) ≤ s[k].toNat := by omega
            have hd2 : (s[k].toNat : Int) ≤ 57 := by omega
            go_wp2
            go_round
            case rel => exact ⟨k + 1, a * 10 + (s[k].toNat - 48), by omega, by go_num, ints_eq (by omega), pow_next Hp.out (by omega), (by rw [← Hs.out, scan_next s k a hlt (dig_true hd)] : numScan (s.data.toList.drop (k + 1)) (a * 10 + (s[k].toNat - 48)) = numScan s.data.toList 0)⟩
            case measure => simp [intOf]; omega
          · have Hn : Hid ((0 : Int) = r.1 ∧ false = r.2) := numS_none Hr.out (by rw [← Hs.out]; exact scan_stop s k a hlt (dig_false hd))
            by_cases hd1 : (s[k].toNat : Int) < 48
            · go_wp2
              go_ret2
              exact ⟨ret_pair Hn.out.1 Hn.out.2, rfl⟩
            · have hd2 : (57 : Int) < s[k].toNat := by omega
              have hd3 : (48 : Int) ≤ s[k].toNat := by omega
              clear hd1
              go_wp2
              go_ret2
              exact ⟨ret_pair Hn.out.1 Hn.out.2, rfl⟩
        · have ha : a < 100000000000000000 := pow_17 Hp.out (by omega)
          have Hn := numS_good Hr.out Hg.out (by rw [← Hs.out, drop_end s k hlt]; rfl)
          have Hn' : Hid _ := Hn
          clear Hn
          go_wp2
          go_ret2
          exact ⟨ret_pair Hn'.out.1 Hn'.out.2, rfl⟩

theorem tail_of (t : ByteArray) : (t.extract 1 t.size).data.toList = t.data.toList.tail := by
  have h : (t.extract 1 t.size).data.toList = List.take (t.size - 1) t.data.toList.tail := by simp
  rw [h, List.take_of_length_le (by simp)]
/-- The whole of it. -/
theorem num_any (t : ByteArray) (w : World) (ht : t.size ≤ maxLen) :
    Calls Tryz.prog 78 #[.string t] w fun e w' => e = .returned (.tuple #[.int .i64 (numL t.data.toList).1, .bool (numL t.data.toList).2]) ∧ w' = w := by
  by_cases h : 0 < t.size
  · by_cases hc : (t[0].toNat : Int) = 45
    · refine num_neg t w ht h hc _ ?_
      unfold numL
      rw [head_of t h, if_pos (by rw [Option.some.injEq]; apply UInt8.toNat_inj.1; simpa using (show t[0].toNat = 45 by omega)), tail_of]
    · refine num_pos t w ht (fun _ => hc) _ ?_
      unfold numL
      rw [head_of t h, if_neg]
      intro e
      rw [Option.some.injEq] at e
      rw [e] at hc
      exact hc rfl
  · refine num_pos t w ht (fun h' => absurd h' h) _ ?_
    unfold numL
    have e : t.data.toList = [] := List.eq_nil_of_length_eq_zero (by rw [len_of]; omega)
    rw [e]; rfl

end Go.Proofs.YtpcfebekkgfpjaaGreatDoor
