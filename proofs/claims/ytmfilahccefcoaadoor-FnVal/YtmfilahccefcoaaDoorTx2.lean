/- The contracts of DrawValText and DrawValRead, over the seat's translation. -/
import Derived.Test.YtmfilahccefcoaaDoorDraw4
import Derived.Test.YtmfilahccefcoaaDoorTx1
namespace Go.Proofs.YtmfilahccefcoaaDoor
open Go.RowKit

set_option maxHeartbeats 400000 in
theorem draw_text (x : Option Addr) (len cap : Nat) (w : World) (hlc : len ≤ cap) (hcap : cap ≤ maxLen) (hc : IsCode w.heap.size x len w) :
    Calls Tryd.prog 5 #[.slice x len cap] w fun e w' => ∃ (k n : Int) (s : ByteArray), e = .returned (.agg #[.int .i64 k, .int .i64 n, .string s]) ∧ s.size ≤ 5 ∧ Below w.heap.size w w' := by
  have b1 := alloc_below w (.cells #[.int .i64 0, .int .i64 0, .string ⟨#[]⟩] 24)
  have Hc : Hid (IsCode w.heap.size x len (w.alloc (.cells #[.int .i64 0, .int .i64 0, .string ⟨#[]⟩] 24))) := hc.keep b1
  clear hc b1
  go_enter Tryd.func5, Tryd.ntmps5
  go_wp2_with fail
  refine (l10_open w.heap.size (w.heap.size + 1) _ _ _ _ (by simp) (by simp) hlc hcap Hc.out).mono ?_
  rintro e w1 ⟨rfl, hr1, hb1⟩
  have HA1 : Hid (Box3 w.heap.size (.int .i64 0) (.int .i64 0) (.string ⟨#[]⟩) w1) := (box3 w _ _ _ 24).keep hb1
  have Hb1 : Hid (Below w.heap.size w w1) := (alloc_below _ _).trans (hb1.mono (by simp))
  have Hr1 : Hid (Rd w.heap.size (w.heap.size + 1) 0 w1) := hr1
  clear hr1 hb1 Hc
  go_wp2_with fail
  refine (l1_draw w.heap.size (w.heap.size + 1) 0 _ Hr1.out (by omega)).mono ?_
  rintro e w2 ⟨k, n, s, q, rfl, hs, hq, hr2, hu2⟩
  obtain ⟨_, c0, c1, c2, f0, f1, f2⟩ := HA1.out.upd hu2 (by omega)
  have Hb2 : Hid (Below w.heap.size w w2) := Hb1.out.trans (hu2.below (by omega) (by have := Hr1.out.2.1; omega))
  clear hr2 hu2 HA1 Hb1 Hr1
  go_wp2_with fail
  exact bodyPost_ret (v := .agg #[.int .i64 k, .int .i64 n, .string s]) (by simp [results, Tryd.results5, go_sem, c0, c1, c2]) rfl ⟨_, _, _, rfl, hs, (((Hb2.out.setCell (Nat.le_refl _) _).setCell (Nat.le_refl _) _).setCell (Nat.le_refl _) _)⟩

theorem l1_max (a b : Int) (w : World) : Calls Tryd.prog 29 #[.int .i64 a, .int .i64 b] w fun e w' => e = .returned (.int .i64 (if b < a then a else b)) ∧ w' = w := by
  by_cases h : b < a
  · rw [if_pos h]
    go_enter Tryd.func29, Tryd.ntmps29
    go_wp2
    go_ret
    exact ⟨rfl, rfl⟩
  · rw [if_neg h]
    go_enter Tryd.func29, Tryd.ntmps29
    go_wp2
    go_ret
    exact ⟨rfl, rfl⟩

theorem wrap_sum (a b : Nat) (h : a + b ≤ 1000) : IntKind.i64.wrap ((a : Int) + (b : Int)) = ((a + b : Nat) : Int) := by
  rw [show ((a : Int) + (b : Int)) = ((a + b : Nat) : Int) by omega]
  exact wrap_small _ (by omega) (by omega)
def strs3 : List ByteArray := [⟨#[]⟩, ⟨#[39]⟩, ⟨#[39, 39]⟩]
theorem strs3_le (s : ByteArray) (h : s ∈ strs3) : s.size ≤ 5 := by
  have : ∀ x ∈ strs3, x.size ≤ 5 := by decide
  exact this s h
def strs7 : List ByteArray := [⟨#[]⟩, ⟨#[48]⟩, ⟨#[39]⟩, ⟨#[45]⟩, ⟨#[97]⟩, ⟨#[57]⟩, ⟨#[32]⟩]
theorem strs7_le (s : ByteArray) (h : s ∈ strs7) : s.size ≤ 5 := by
  have : ∀ x ∈ strs7, x.size ≤ 5 := by decide
  exact this s h

theorem textV_le (k n : Int) (s : ByteArray) (hs : s.size ≤ 5) : (textV k n s).length ≤ 7 := by
  unfold textV
  cases hok : valOk k n s
  · simp
  · rw [if_pos rfl]
    split
    · simp
    · split
      · rename_i h0 h1
        subst h1
        have hr : -999 ≤ n ∧ n ≤ 999 := by simp [valOk] at hok; simpa [numOk] using hok.2
        have hd : ∀ u, (decL u).length ≤ 3 := by intro u; unfold decL; split <;> (try split) <;> simp
        by_cases hn : n < 0
        · rw [itoa_neg hn hr.1]; have := hd n.natAbs; simp; omega
        · rw [itoa_pos (by omega) hr.2]; have := hd n.toNat; omega
      · simp; omega

set_option maxHeartbeats 1000000 in
theorem draw_read (B : Nat) (x : Option Addr) (len cap : Nat) (w : World) (hB : B ≤ w.heap.size) (hlc : len ≤ cap) (hcap : cap ≤ maxLen) (hc : IsCode B x len w) :
    Calls Tryd.prog 11 #[.slice x len cap] w fun e w' => ∃ (s : ByteArray), e = .returned (.string s) ∧ s.size ≤ 100 ∧ Below w.heap.size w w' := by
  have Hc : Hid (IsCode B x len w) := hc
  clear hc
  go_enter Tryd.func11, Tryd.ntmps11
  go_wp2_with fail
  refine (l10_open B w.heap.size _ _ _ _ rfl hB hlc hcap Hc.out).mono ?_
  rintro e w1 ⟨rfl, hr1, hb1⟩
  have Hb1 : Hid (Below w.heap.size w w1) := hb1
  have Hr1 : Hid (Rd B w.heap.size 0 w1) := hr1
  clear hr1 hb1 Hc
  go_wp2_with fail
  refine (pick_any B w.heap.size 0 _ _ Hr1.out (by omega) (by omega) (by omega)).mono ?_
  rintro e w2 ⟨v, rfl, hv, hr2, hu2⟩
  have Hb2 : Hid (Below w.heap.size w w2) := Hb1.out.trans (hu2.below (Nat.le_refl _) Hb1.out.size)
  have Hr2 : Hid (Rd B w.heap.size 1 w2) := hr2
  clear hr2 hu2 Hb1 Hr1
  go_wp2_with fail
  refine (l1_some B w.heap.size 1 _ _ Hr2.out (by omega)).mono ?_
  rintro e w3 ⟨k, n, s, q, rfl, hs, hq, hr3, hu3⟩
  have Hb3 : Hid (Below w.heap.size w w3) := Hb2.out.trans (hu3.below (Nat.le_refl _) Hb2.out.size)
  have Hr3 : Hid (Rd B w.heap.size q w3) := hr3
  clear hr3 hu3 Hb2 Hr2
  go_wp2_with fail
  refine (spec_text k n s _ (by unfold maxLen; omega)).mono ?_
  rintro e w4 ⟨rfl, hb4⟩
  have Hb4 : Hid (Below w.heap.size w w4) := Hb3.out.trans (hb4.mono Hb3.out.size)
  have Hr4 : Hid (Rd B w.heap.size q w4) := Hr3.out.keep hb4
  clear hb4 Hb3 Hr3
  obtain ⟨y, hy⟩ : ∃ y : ByteArray, y = ⟨(textV k n s).toArray⟩ := ⟨_, rfl⟩
  have hy7 : y.size ≤ 7 := by have := textV_le k n s hs; rw [hy]; exact this
  rw [← hy]
  clear hy
  go_wp2_with fail
  refine (pick_any B w.heap.size q _ _ Hr4.out (by omega) (by omega) (by omega)).mono ?_
  rintro e w5 ⟨u, rfl, hu, hr5, hu5⟩
  have Hb5 : Hid (Below w.heap.size w w5) := Hb4.out.trans (hu5.below (Nat.le_refl _) Hb4.out.size)
  have Hr5 : Hid (Rd B w.heap.size (q + 1) w5) := hr5
  clear hr5 hu5 Hb4 Hr4
  cases hu0 : ((u : Int) == 0)
  · go_wp2_with fail
    refine (l1_max _ _ _).mono ?_
    rintro e w6 ⟨rfl, rfl⟩
    by_cases hyz : y.size = 0
    · have hmax : (if (y.size : Int) < 1 then (1 : Int) else y.size) = 1 := by rw [if_pos (by omega)]
      have hyz' : ((y.size : Int) == 0) = true := beq_iff_eq.2 (by omega)
      rw [hmax]
      clear hmax hyz
      go_wp2_with fail
      refine (pick_any B w.heap.size (q + 1) _ _ Hr5.out (by omega) (by omega) (by omega)).mono ?_
      rintro e w7 ⟨u2, rfl, hu2, hr7, hu7⟩
      have Hb7 : Hid (Below w.heap.size w w7) := Hb5.out.trans (hu7.below (Nat.le_refl _) Hb5.out.size)
      have Hr7 : Hid (Rd B w.heap.size (q + 1 + 1) w7) := hr7
      have hz7 : w.heap.size < w7.heap.size := hr7.2.1
      clear hr7 hu7 Hb5 Hr5
      go_wp2_with fail
      refine (of_of_any B w.heap.size (q + 1 + 1) w7.heap.size strs3 _ (Hr7.out.keep (alloc_below _ _)) (by omega) (by omega) (by simp) (by decide) (by decide) (row_strs w7 strs3 9)).mono ?_
      rintro e w8 ⟨s', rfl, hs', hr8, hu8⟩
      have h5 := strs3_le s' hs'
      have Hb8 : Hid (Below w.heap.size w w8) := (Hb7.out.alloc Hb7.out.size _).trans (hu8.below (Nat.le_refl _) (by simp; omega))
      clear hr8 hu8 hs'
      go_wp2_with fail
      go_ret
      exact ⟨_, rfl, by omega, Hb8.out⟩
    · have hmax : (if (y.size : Int) < 1 then (1 : Int) else y.size) = y.size := by rw [if_neg (by omega)]
      have hyz' : ((y.size : Int) == 0) = false := beq_eq_false_iff_ne.2 (by omega)
      have hy1 : 1 ≤ y.size := by omega
      rw [hmax]
      clear hmax hyz
      go_wp2_with fail
      refine (pick_any B w.heap.size (q + 1) _ _ Hr5.out (by omega) (by omega) (by omega)).mono ?_
      rintro e w7 ⟨u2, rfl, hu2, hr7, hu7⟩
      have Hb7 : Hid (Below w.heap.size w w7) := Hb5.out.trans (hu7.below (Nat.le_refl _) Hb5.out.size)
      have Hr7 : Hid (Rd B w.heap.size (q + 1 + 1) w7) := hr7
      have hz7 : w.heap.size < w7.heap.size := hr7.2.1
      have hu2' : u2 < y.size := by omega
      clear hr7 hu7 Hb5 Hr5
      go_wp2_with fail
      go_region_with (first
        | (go_at_call 30; refine (of_of_any B w.heap.size (q + 1 + 1) w7.heap.size strs7 _ ?_ ?_ ?_ ?_ ?_ ?_ ?_).mono ?_; (exact Hr7.out.keep (alloc_below _ _).drew); (omega); (omega); (simp); (decide); (decide); (exact row_strs w7 strs7 9); rintro e w8 ⟨s', rfl, hs', hr8, hu8⟩; have h5 := strs7_le s' hs'; have Hb8 : Hid (Below w.heap.size w w8) := below_on Hb7.out hu8 (Nat.le_refl _) (by omega); have Hr8 : Hid (Rd B w.heap.size (q + 1 + 1 + 1) w8) := hr8; clear hr8 hu8 hs')
        | (go_at_call 28; refine (pick_any B w.heap.size (q + 1 + 1 + 1) _ _ ?_ ?_ ?_ ?_).mono ?_; (exact Hr8.out); (omega); (omega); (omega); rintro e w9 ⟨u3, rfl, hu3, hr9, hu9⟩; have Hb9 : Hid (Below w.heap.size w w9) := Hb8.out.trans (hu9.below (Nat.le_refl _) Hb8.out.size); have hu3' : (u3 : Int) ≤ 1 := (by omega); have hwr : IntKind.i64.wrap ((u2 : Int) + (u3 : Int)) = ((u2 + u3 : Nat) : Int) := wrap_sum u2 u3 (by omega); have hle : ((u2 + u3 : Nat) : Int) ≤ (y.size : Int) := (by omega); have hle' : u2 + u3 ≤ y.size := (by omega); clear hr9 hu9))
      all_goals
        go_wp2_with fail
        go_ret
        refine ⟨(y.extract 0 u2 ++ s') ++ y.extract (u2 + u3) y.size, by simp [go_sem], ?_, Hb9.out⟩
        simp
        omega
  · go_wp2_with fail
    go_ret
    exact ⟨_, rfl, by omega, Hb5.out⟩

end Go.Proofs.YtmfilahccefcoaaDoor
