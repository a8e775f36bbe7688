/- The contracts of l10Open and l1Draw, over the seat's translation. -/
import Derived.Test.YtddcmibggdighaaDraw3
import Derived.Deep.RegionHeld3
namespace Go.Proofs.Ytddcmibggdighaa
open Go.RowKit

theorem IsCode.less {B : Nat} {x : Option Addr} {len l : Nat} {W : World} (h : IsCode B x len W) (hl : l ≤ len) : IsCode B x l W := by
  rcases h with h | ⟨cb, co, hx, hlt, hc⟩
  · exact Or.inl (by omega)
  · exact Or.inr ⟨cb, co, hx, hlt, fun i hi => hc i (by omega)⟩

theorem rd_new (w : World) (B : Nat) (x : Option Addr) (len cap : Nat) (t : TypeId) (hB : B ≤ w.heap.size) (hl : len ≤ 2000) (hc : IsCode B x len w) : Rd B w.heap.size 0 (w.alloc (.cells #[.slice x len cap, .int .i64 0] t)) := by
  refine ⟨hB, by simp, x, len, cap, hl, ?_, ?_, ?_, hc.keep ((alloc_below w _).mono hB)⟩
  · go_simp
  · go_simp
  · go_simp

set_option maxHeartbeats 400000 in
theorem l10_open (B g : Nat) (x : Option Addr) (len cap : Nat) (w : World) (hgw : w.heap.size = g) (hB : B ≤ w.heap.size) (hlc : len ≤ cap) (hcap : cap ≤ maxLen) (hc : IsCode B x len w) :
    Calls Try.prog 9 #[.slice x len cap] w fun e w' => e = .returned (.pointer (some ⟨g, 0, none⟩)) ∧ Rd B g 0 w' ∧ Below w.heap.size w w' := by
  subst hgw
  unfold maxLen at hcap
  by_cases h : (2000 : Int) < len
  · have hx : ∃ cb co, x = some ⟨cb, co, none⟩ := by
      rcases hc with h0 | ⟨cb, co, hx, _⟩
      · omega
      · exact ⟨cb, co, hx⟩
    obtain ⟨cb, co, rfl⟩ := hx
    have Hc : Hid (IsCode B (some ⟨cb, co, none⟩) 2000 w) := hc.less (by omega)
    clear hc
    go_enter Try.func9, Try.ntmps9
    go_wp2
    go_ret
    exact ⟨rfl, rd_new w B _ _ _ _ hB (by omega) Hc.out, alloc_below _ _⟩
  · have Hc : Hid (IsCode B x len w) := hc
    clear hc
    go_enter Try.func9, Try.ntmps9
    go_wp2
    go_ret
    exact ⟨rfl, rd_new w B _ _ _ _ hB (by omega) Hc.out, alloc_below _ _⟩

set_option maxHeartbeats 1000000 in
theorem l1_draw (B g p : Nat) (w : World) (hr : Rd B g p w) (hp : p < 800000) :
    Calls Try.prog 25 #[.pointer (some ⟨g, 0, none⟩)] w fun e w' => ∃ (k n : Int) (s : ByteArray) (q : Nat), e = .returned (.agg #[.int .i64 k, .int .i64 n, .string s]) ∧ s.size ≤ 5 ∧ q ≤ p + 5 ∧ Rd B g q w' ∧ Upd g w w' := by
  have hg : g < w.heap.size := hr.2.1
  have hne : w.heap.size ≠ g := by omega
  have hBw : B ≤ w.heap.size := by have := hr.1; omega
  have b1 := alloc_below w (.cells #[.int .i64 0, .int .i64 0, .string ⟨#[]⟩] 29)
  have Hr : Hid (Rd B g p (w.alloc (.cells #[.int .i64 0, .int .i64 0, .string ⟨#[]⟩] 29))) := hr.keep b1
  have Hu0 : Hid (Upd g w (w.alloc (.cells #[.int .i64 0, .int .i64 0, .string ⟨#[]⟩] 29))) := Upd.ofBelow b1
  clear hr b1
  go_enter Try.func25, Try.ntmps25
  go_wp2_with fail
  refine (pick_any B g p _ _ Hr.out (by omega) (by omega) (by omega)).mono ?_
  rintro e w1 ⟨v, rfl, hv, hr1, hu1⟩
  have HX1 : Hid (Box3 w.heap.size (.int .i64 0) (.int .i64 0) (.string ⟨#[]⟩) w1) := (box3 w _ _ _ 29).upd hu1 hne
  have Hr1 : Hid (Rd B g (p + 1) w1) := hr1
  have Hu1 : Hid (Upd g w w1) := Hu0.out.trans hu1
  clear hr1 hu1 Hr Hu0
  go_wp2_with fail
  refine (l1_some B g (p + 1) _ _ Hr1.out (by omega)).mono ?_
  rintro e w2 ⟨k, n, s, q, rfl, hs, hq, hr2, hu2⟩
  have HX2 : Hid (Box3 w.heap.size (.int .i64 0) (.int .i64 0) (.string ⟨#[]⟩) w2) := HX1.out.upd hu2 hne
  have Hr2 : Hid (Rd B g q w2) := hr2
  have Hu2 : Hid (Upd g w w2) := Hu1.out.trans hu2
  clear hr2 hu2 Hr1 Hu1 HX1
  go_wp2_with fail
  refine (l1_bent B g q _ _ _ _ Hr2.out (by omega) hs).mono ?_
  rintro e w3 ⟨k', n', s', q', rfl, hs', hq', hr3, hu3⟩
  obtain ⟨_, c0, c1, c2, f0, f1, f2⟩ := HX2.out.upd hu3 hne
  have Hr3 : Hid (Rd B g q' w3) := hr3
  have Hu3 : Hid (Upd g w w3) := Hu2.out.trans hu3
  clear hr3 hu3 Hr2 Hu2 HX2
  go_wp2_with fail
  exact bodyPost_ret (v := .agg #[.int .i64 k', .int .i64 n', .string s']) (by simp [results, Try.results25, go_sem, c0, c1, c2]) rfl ⟨_, _, _, q', rfl, hs', by omega, Hr3.out.other (Upd.set3 _ _ _ _) hne (by omega), Hu3.out.other (Upd.set3 _ _ _ _) (by omega)⟩

theorem rd_on {B g q : Nat} {w2 : World} {o : Obj} (h : Rd B g q w2) : Rd B g q (w2.alloc o).drew := h.keep (alloc_below w2 o).drew
theorem box_on {b g : Nat} {x y z : Value} {w2 w3 : World} {o : Obj} (h : Box3 b x y z w2) (hu : Upd g (w2.alloc o).drew w3) (hne : b ≠ g) : Box3 b x y z w3 := (h.keep (alloc_below w2 o).drew).upd hu hne
theorem box_new {g : Nat} {x y z : Value} {w2 w3 : World} {t : TypeId} (hu : Upd g (w2.alloc (.cells #[x, y, z] t)).drew w3) (hne : w2.heap.size ≠ g) : w3.cell? ⟨w2.heap.size, 0, none⟩ = some x ∧ w3.cell? ⟨w2.heap.size, 1, none⟩ = some y ∧ w3.cell? ⟨w2.heap.size, 2, none⟩ = some z := by
  have h : Box3 w2.heap.size x y z (w2.alloc (.cells #[x, y, z] t)).drew := (box3 w2 x y z t).keep (Below.refl _ _).drew
  obtain ⟨_, a, b, c, _⟩ := h.upd hu hne
  exact ⟨a, b, c⟩
theorem below_on {B g : Nat} {w w2 w3 : World} {o : Obj} (h : Below B w w2) (hu : Upd g (w2.alloc o).drew w3) (hB : B ≤ g) (hs : B ≤ w2.heap.size) : Below B w w3 := by
  have h1 : Below w2.heap.size w2 (w2.alloc o).drew := (alloc_below w2 o).drew
  have hz := h1.size
  exact (h.trans (h1.mono hs)).trans (hu.below hB (by omega))

end Go.Proofs.Ytddcmibggdighaa
