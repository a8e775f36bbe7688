/- Contracts of spec.ValOk, spec.l10Dec and spec.ValText, over the seat's translation. -/
import Derived.Test.YtfcmdmgjooifpapDoorRd2
import Derived.Test.YtfcmdmgjooifpapDoorRdMath
import Derived.Laws.StructEq
namespace Go.Proofs.YtfcmdmgjooifpapDoor
open Go.RowKit

def valOk (k n : Int) (s : ByteArray) : Bool :=
  if k = 0 then n == 0 && s.toList == [] else if k = 1 then s.toList == [] && numOk n else if k = 2 then n == 0 && textOk s else false

set_option maxHeartbeats 400000 in
theorem spec_ok (k n : Int) (s : ByteArray) (w : World) (hs : s.size ≤ maxLen) :
    Calls Tryd.prog 8 #[.agg #[.int .i64 k, .int .i64 n, .string s]] w fun e w' => e = .returned (.bool (valOk k n s)) ∧ Below w.heap.size w w' := by
  go_enter Tryd.func8, Tryd.ntmps8
  go_wp2_with (first
    | (go_at_call 15; refine (l1_num _ _).mono ?_; rintro e w' ⟨rfl, rfl⟩)
    | (go_at_call 16; refine (l1_text _ _ hs).mono ?_; rintro e w' ⟨rfl, rfl⟩))
  all_goals
    go_ret
    refine ⟨?_, (Below.refl _ _).alloc (Nat.le_refl _) _⟩
    simp_all [valOk]

theorem bcell {W w1 : World} (hb : Below W.heap.size W w1) : (∀ b o, b < W.heap.size → w1.cell? ⟨b, o, none⟩ = W.cell? ⟨b, o, none⟩) ∧ (∀ b o, b < W.heap.size → w1.frozen? ⟨b, o, none⟩ = W.frozen? ⟨b, o, none⟩) :=
  ⟨fun b o h => hb.cell (p := ⟨b, o, none⟩) h, fun b o h => hb.frozen (p := ⟨b, o, none⟩) h⟩

/-- The box at B holds the value in W, and W lies over w. -/
abbrev Held1 (w : World) (B : Nat) (k n : Int) (s : ByteArray) (W : World) : Prop :=
  W.cell? ⟨B, 0, none⟩ = some (.int .i64 k) ∧ W.cell? ⟨B, 1, none⟩ = some (.int .i64 n) ∧ W.cell? ⟨B, 2, none⟩ = some (.string s) ∧ B + 1 ≤ W.heap.size ∧ Below B w W

theorem held_next {w : World} {B : Nat} {k n : Int} {s : ByteArray} {W W' : World} (h : Held1 w B k n s W) (hb : Below W.heap.size W W') : Held1 w B k n s W' := by
  obtain ⟨a, b, c, g, i⟩ := h
  have hc := (bcell hb).1
  have hz := hb.size
  exact ⟨by rw [hc _ _ (by omega)]; exact a, by rw [hc _ _ (by omega)]; exact b, by rw [hc _ _ (by omega)]; exact c, by omega, i.trans (hb.mono (by omega))⟩
theorem held_drew {w : World} {B : Nat} {k n : Int} {s : ByteArray} {W : World} (h : Held1 w B k n s W) : Held1 w B k n s W.drew :=
  held_next h (Below.refl _ _).drew
theorem held_box (w : World) (k n : Int) (s : ByteArray) (t : TypeId) : Held1 w w.heap.size k n s (w.alloc (.cells #[.int .i64 k, .int .i64 n, .string s] t)) := by
  refine ⟨?_, ?_, ?_, ?_, ?_⟩
  · go_simp
  · go_simp
  · go_simp
  · simp
  · exact (Below.refl _ _).alloc (Nat.le_refl _) _


theorem ret_str {a b : ByteArray} (h : a = b) : Ending.returned (.string a) = .returned (.string b) := by rw [h]

theorem conv_byte (W : World) (x : Int) (c : UInt8) (h : (c.toNat : Int) = x) :
    (convert 42 9 (.slice (some ⟨W.heap.size, 0, none⟩) 1 1)).run Tryd.prog (W.alloc (.cells #[.int .u8 x] 5)) = .ok (.string ⟨#[c]⟩) (W.alloc (.cells #[.int .u8 x] 5)) :=
  run_convert_bytes_back _ _ _ 5 _ 1 [c] Tryd.underlying42 Tryd.underlying5 Tryd.underlying9 (fun j hj => by
    have : j = 0 := by simp at hj; omega
    subst this
    simp [Addr.add, go_sem, h])
theorem byte_of (k : Nat) (h : k < 10) : ((UInt8.ofNat (48 + k)).toNat : Int) = 48 + (k : Int) := by
  have : (UInt8.ofNat (48 + k)).toNat = 48 + k := by simp; omega
  omega

theorem cat_one (c : UInt8) (l : List UInt8) : ({ data := #[c] } ++ { data := l.toArray } : ByteArray) = ⟨(c :: l).toArray⟩ := by
  apply ByteArray.ext
  simp
theorem dec_len {n m : Nat} {l : List UInt8} (h : n ≤ 999) (hd : Lib.decDigits n = Lib.decDigits m ++ l) : l.length ≤ 3 := by
  have h1 := congrArg List.length hd
  rw [dec_decL n (by omega), List.length_append] at h1
  have h2 : (decL n).length ≤ 3 := by unfold decL; split <;> (try split) <;> simp
  omega

set_option maxHeartbeats 400000 in
theorem dec_pos (n : Nat) (w : World) (hn : n ≤ 999) :
    Calls Tryd.prog 17 #[.int .i64 n] w fun e w' => e = .returned (.string ⟨(Lib.decDigits n).toArray⟩) ∧ Below w.heap.size w w' := by
  go_enter Tryd.func17, Tryd.ntmps17
  go_wp2
  go_loopw [0, 3] (fun i o w' => ∃ (m : Nat) (l : List UInt8), m ≤ 999 ∧ i = .int .i64 m ∧ o = .string ⟨l.toArray⟩ ∧ Hid (Lib.decDigits n = Lib.decDigits m ++ l) ∧ Below w.heap.size w w') (fun i _ _ => (intOf i).toNat)
  case atStart => exact ⟨n, [], hn, rfl, rfl, (by simp : Lib.decDigits n = Lib.decDigits n ++ []), Below.refl _ _⟩
  case round =>
    obtain ⟨m, l, hm, rfl, rfl, hd, hb⟩ := hrel
    by_cases h9 : (9 : Int) < m
    · obtain ⟨c, hc⟩ : ∃ c : UInt8, c = UInt8.ofNat (48 + m % 10) := ⟨_, rfl⟩
      have hcv := conv_byte wr (48 + (m : Int) % 10) c (by rw [hc, byte_of _ (by omega)]; omega)
      have hl : l.length ≤ 3 := dec_len hn hd.out
      have Hc : Hid (c = UInt8.ofNat (48 + m % 10)) := hc
      clear hc
      go_wp2
      go_roundw
      case rel =>
        refine ⟨m / 10, c :: l, by omega, by go_num, by rw [cat_one], ?_, hb.alloc hb.size _⟩
        show Lib.decDigits n = _
        rw [hd.out, dec_step m (by omega), Hc.out]; simp
      case measure => simp [intOf]; omega
    · obtain ⟨c, hc⟩ : ∃ c : UInt8, c = UInt8.ofNat (48 + m) := ⟨_, rfl⟩
      have hcv := conv_byte wr (48 + (m : Int)) c (by rw [hc, byte_of _ (by omega)])
      have hl : l.length ≤ 3 := dec_len hn hd.out
      have Hc : Hid (c = UInt8.ofNat (48 + m)) := hc
      clear hc
      go_wp2
      go_ret
      refine ⟨ret_str ?_, hb.alloc hb.size _⟩
      rw [cat_one, hd.out, dec_small m (by omega), Hc.out]; rfl

set_option maxHeartbeats 400000 in
theorem dec_any (n : Int) (w : World) (h0 : -999 ≤ n) (h1 : n ≤ 999) :
    Calls Tryd.prog 17 #[.int .i64 n] w fun e w' => e = .returned (.string ⟨(Lib.itoa n).toArray⟩) ∧ Below w.heap.size w w' := by
  by_cases h : n < 0
  · have e := itoa_neg h h0
    obtain ⟨m, hm⟩ : ∃ m : Nat, n = -(m : Int) := ⟨n.natAbs, by omega⟩
    subst hm
    have ha : (-(m : Int)).natAbs = m := by omega
    have hd := dec_decL m (by omega)
    rw [e, ha, ← hd]
    have hl : (Lib.decDigits m).length ≤ 3 := by rw [hd]; unfold decL; split <;> (try split) <;> simp
    have Hh : Hid (m ≤ 999) := (show m ≤ 999 by omega)
    clear e ha hd
    go_enter Tryd.func17, Tryd.ntmps17
    go_wp2_with fail
    refine (dec_pos m _ Hh.out).mono ?_
    rintro e w' ⟨rfl, hb⟩
    go_wp2_with fail
    go_ret
    refine ⟨ret_str ?_, hb⟩
    rw [cat_one]
  · obtain ⟨m, hm⟩ := Int.eq_ofNat_of_zero_le (show 0 ≤ n by omega)
    subst hm
    have e : Lib.itoa (m : Int) = Lib.decDigits m := by unfold Lib.itoa; rw [if_neg (by omega)]; rfl
    rw [e]
    exact dec_pos m w (by omega)

end Go.Proofs.YtfcmdmgjooifpapDoor
