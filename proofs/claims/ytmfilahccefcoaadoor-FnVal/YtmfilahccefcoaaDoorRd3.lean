/- Contract of spec.l10Dec, over the seat's translation. -/
import Derived.Test.YtmfilahccefcoaaDoorA3
import Derived.Test.YtmfilahccefcoaaDoorRdMath
namespace Go.Proofs.YtmfilahccefcoaaDoor
open Go.RowKit

theorem ret_str {a b : ByteArray} (h : a = b) : Ending.returned (.string a) = .returned (.string b) := by rw [h]

theorem conv_byte (W : World) (x : Int) (c : UInt8) (h : (c.toNat : Int) = x) :
    (convert 22 9 (.slice (some ⟨W.heap.size, 0, none⟩) 1 1)).run Tryd.prog (W.alloc (.cells #[.int .u8 x] 5)) = .ok (.string ⟨#[c]⟩) (W.alloc (.cells #[.int .u8 x] 5)) :=
  run_convert_bytes_back _ _ _ 5 _ 1 [c] Tryd.underlying22 Tryd.underlying5 Tryd.underlying9 (fun j hj => by
    have : j = 0 := by simp at hj; omega
    subst this
    simp [Addr.add, go_sem, h])
theorem byte_of (k : Nat) (h : k < 10) : ((UInt8.ofNat (48 + k)).toNat : Int) = 48 + (k : Int) := by
  have : (UInt8.ofNat (48 + k)).toNat = 48 + k := by simp; omega
  omega

theorem cat_one (c : UInt8) (l : List UInt8) : ({ data := #[c] } ++ { data := l.toArray } : ByteArray) = ⟨(c :: l).toArray⟩ := by
  apply ByteArray.ext
  simp
theorem dec_len {n m : Nat} {l : List UInt8} (h : n ≤ 999) (hd : Lib.decDigits n = Lib.decDigits m ++ l) : l.length ≤ 3 := by
  have h1 := congrArg List.length hd
  rw [dec_decL n (by omega), List.length_append] at h1
  have h2 : (decL n).length ≤ 3 := by unfold decL; split <;> (try split) <;> simp
  omega

set_option maxHeartbeats 400000 in
theorem dec_pos (n : Nat) (w : World) (hn : n ≤ 999) :
    Calls Tryd.prog 24 #[.int .i64 n] w fun e w' => e = .returned (.string ⟨(Lib.decDigits n).toArray⟩) ∧ Below w.heap.size w w' := by
  go_enter Tryd.func24, Tryd.ntmps24
  go_wp2
  go_loopw [0, 3] (fun i o w' => ∃ (m : Nat) (l : List UInt8), m ≤ 999 ∧ i = .int .i64 m ∧ o = .string ⟨l.toArray⟩ ∧ Hid (Lib.decDigits n = Lib.decDigits m ++ l) ∧ Below w.heap.size w w') (fun i _ _ => (intOf i).toNat)
  case atStart => exact ⟨n, [], hn, rfl, rfl, (by simp : Lib.decDigits n = Lib.decDigits n ++ []), Below.refl _ _⟩
  case round =>
    obtain ⟨m, l, hm, rfl, rfl, hd, hb⟩ := hrel
    by_cases h9 : (9 : Int) < m
    · obtain ⟨c, hc⟩ : ∃ c : UInt8, c = UInt8.ofNat (48 + m % 10) := ⟨_, rfl⟩
      have hcv := conv_byte wr (48 + (m : Int) % 10) c (by rw [hc, byte_of _ (by omega)]; omega)
      have hl : l.length ≤ 3 := dec_len hn hd.out
      have Hc : Hid (c = UInt8.ofNat (48 + m % 10)) := hc
      clear hc
      go_wp2
      go_roundw
      case rel =>
        refine ⟨m / 10, c :: l, by omega, by go_num, by rw [cat_one], ?_, hb.alloc hb.size _⟩
        show Lib.decDigits n = _
        rw [hd.out, dec_step m (by omega), Hc.out]; simp
      case measure => simp [intOf]; omega
    · obtain ⟨c, hc⟩ : ∃ c : UInt8, c = UInt8.ofNat (48 + m) := ⟨_, rfl⟩
      have hcv := conv_byte wr (48 + (m : Int)) c (by rw [hc, byte_of _ (by omega)])
      have hl : l.length ≤ 3 := dec_len hn hd.out
      have Hc : Hid (c = UInt8.ofNat (48 + m)) := hc
      clear hc
      go_wp2
      go_ret
      refine ⟨ret_str ?_, hb.alloc hb.size _⟩
      rw [cat_one, hd.out, dec_small m (by omega), Hc.out]; rfl

set_option maxHeartbeats 400000 in
theorem dec_any (n : Int) (w : World) (h0 : -999 ≤ n) (h1 : n ≤ 999) :
    Calls Tryd.prog 24 #[.int .i64 n] w fun e w' => e = .returned (.string ⟨(Lib.itoa n).toArray⟩) ∧ Below w.heap.size w w' := by
  by_cases h : n < 0
  · have e := itoa_neg h h0
    obtain ⟨m, hm⟩ : ∃ m : Nat, n = -(m : Int) := ⟨n.natAbs, by omega⟩
    subst hm
    have ha : (-(m : Int)).natAbs = m := by omega
    have hd := dec_decL m (by omega)
    rw [e, ha, ← hd]
    have hl : (Lib.decDigits m).length ≤ 3 := by rw [hd]; unfold decL; split <;> (try split) <;> simp
    have Hh : Hid (m ≤ 999) := (show m ≤ 999 by omega)
    clear e ha hd
    go_enter Tryd.func24, Tryd.ntmps24
    go_wp2_with fail
    refine (dec_pos m _ Hh.out).mono ?_
    rintro e w' ⟨rfl, hb⟩
    go_wp2_with fail
    go_ret
    refine ⟨ret_str ?_, hb⟩
    rw [cat_one]
  · obtain ⟨m, hm⟩ := Int.eq_ofNat_of_zero_le (show 0 ≤ n by omega)
    subst hm
    have e : Lib.itoa (m : Int) = Lib.decDigits m := by unfold Lib.itoa; rw [if_neg (by omega)]; rfl
    rw [e]
    exact dec_pos m w (by omega)

end Go.Proofs.YtmfilahccefcoaaDoor
