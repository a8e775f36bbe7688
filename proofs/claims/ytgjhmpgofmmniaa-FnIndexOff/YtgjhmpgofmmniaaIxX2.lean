/- The contracts of laws.wpEntries and of DrawIndexOk, over the seat's translation. -/
import Derived.Test.YtgjhmpgofmmniaaIxX1
import Derived.Test.YtgjhmpgofmmniaaIxO1
namespace Go.Proofs.Ytgjhmpgofmmniaa
open Go.RowKit

theorem neq_entry (c : AEnt) (w : World) :
    (binOp .neq 29 (.agg #[.int .i64 c.k, .int .i64 c.n, .string c.s, .int .i64 c.id]) (.agg #[.int .i64 c.k, .int .i64 c.n, .string c.s, .int .i64 c.id])).run Try.prog w = .ok (.bool false) w := by
  go_simp

/-- What a draw of entries answers: entries that lie in W, small ones, and no more than 16. -/
structure DrE (w : World) (a : Option Addr) (c : Nat) (L : List AEnt) (W : World) : Prop where
  ents : EntsAt W a L
  nil : a = none → c = 0
  cap : L.length ≤ c
  len : L.length ≤ 16
  small : ∀ d ∈ L, d.s.size ≤ 5
  bel : Below w.heap.size w W
theorem DrE.fit {w : World} {a : Option Addr} {c : Nat} {L : List AEnt} {W : World} (h : DrE w a c L W) : ∀ d ∈ L, d.fit := fun d hd => by
  have := h.small d hd
  unfold AEnt.fit maxLen
  omega
theorem DrE.next {w : World} {a : Option Addr} {c : Nat} {L : List AEnt} {W W' : World} (h : DrE w a c L W) (hb : Below W.heap.size W W') : DrE w a c L W' :=
  ⟨h.ents.keep hb, h.nil, h.cap, h.len, h.small, h.bel.trans (hb.mono h.bel.size)⟩
theorem DrE.of {w : World} {g : Nat} {w1 W : World} {a : Option Addr} {c : Nat} {L : List AEnt} (hb : Below w.heap.size w w1) (hB : w.heap.size ≤ g) (hR : RowE w1.heap.size (.slice a L.length c) L W) (hl : L.length ≤ 16) (hs : ∀ d ∈ L, d.s.size ≤ 5) (hu : Upd g w1 W) : DrE w a c L W := by
  obtain ⟨h0, hc⟩ := hR.caps rfl
  exact ⟨hR.same, h0, hc, hl, hs, hb.trans (hu.below hB hb.size)⟩

set_option maxRecDepth 100000 in
set_option maxHeartbeats 1000000 in
theorem wp_entries (a b : Option Addr) (cap cap' : Nat) (L : List AEnt) (w : World) (ha : EntsAt w a L) (hb : EntsAt w b L) (hm : L.length ≤ maxLen) :
    Calls Try.prog 23 #[.slice a L.length cap, .slice b L.length cap'] w fun e w' => e = .returned (.bool true) ∧ Below w.heap.size w w' := by
  unfold maxLen at hm
  go_enter Try.func23, Try.ntmps23
  go_wp2_with fail
  go_loopw [5] (fun i wr => ∃ k : Nat, k ≤ L.length ∧ i = .int .i64 k ∧ Hid (Below w.heap.size w wr)) (fun i _ => L.length - (intOf i).toNat)
  case atStart => exact ⟨0, Nat.zero_le _, rfl, Below.refl _ _⟩
  case round =>
    obtain ⟨k, hk, rfl, hH⟩ := hrel
    by_cases hlt : k < L.length
    · obtain ⟨b1, o1, hab1, hbl1, hr1⟩ := (ha.keep hH.out).at hlt
      obtain ⟨b2, o2, hab2, hbl2, hr2⟩ := (hb.keep hH.out).at hlt
      revert hr1 hr2
      generalize L[k] = c
      intro hr1 hr2
      have hix : ∀ wx, (Instr.indexAt 23 (.slice a L.length cap) (.int .i64 k)).run Try.prog wx = .ok (.pointer (some ⟨b1, o1 + k * 4, none⟩)) wx := fun wx => by
        rw [hab1]; exact run_ix4 _ _ _ _ _ _ _ wx hlt Try.underlying23 (Try.sizeOf29 wx)
      have hiy : ∀ wx, (Instr.indexAt 23 (.slice b L.length cap') (.int .i64 k)).run Try.prog wx = .ok (.pointer (some ⟨b2, o2 + k * 4, none⟩)) wx := fun wx => by
        rw [hab2]; exact run_ix4 _ _ _ _ _ _ _ wx hlt Try.underlying23 (Try.sizeOf29 wx)
      have hT1 := cells4_of hr1
      have hT2 := cells4_of hr2
      have hq := neq_entry c
      clear hab1 hab2 ha hb hbl1 hbl2 hr1 hr2
      go_wp2_with fail
      go_quiet (fail)
      have hP : Hid (Below w.heap.size w (wr.drewN nq)) := hH.out.trans (quiet_below _ _ _)
      go_wp2_with fail
      go_roundw
      case rel => exact ⟨k + 1, by omega, by go_num, hP⟩
      case measure => simp [intOf]; omega
    · have hkl : k = L.length := by omega
      subst hkl
      go_wp2_with fail
      go_ret
      exact ⟨rfl, hH.out⟩

set_option maxHeartbeats 1000000 in
theorem draw_iok (x : Option Addr) (len cap : Nat) (w : World) (hlc : len ≤ cap) (hcap : cap ≤ maxLen) (hc : IsCode w.heap.size x len w) :
    Calls Try.prog 13 #[.slice x len cap] w fun e w' => ∃ a c L, e = .returned (.slice a (List.length L) c) ∧ DrE w a c L w' := by
  go_enter Try.func13, Try.ntmps13
  go_wp2_with fail
  refine (l10_open w.heap.size w.heap.size x len cap w rfl (Nat.le_refl _) hlc hcap hc).mono ?_
  rintro e w1 ⟨rfl, hr1, hb1⟩
  have H1 : Hid (Rd w.heap.size w.heap.size 0 w1 ∧ Below w.heap.size w w1) := ⟨hr1, hb1⟩
  clear hr1 hb1 hc
  go_wp2_with fail
  refine (l8_some w.heap.size w.heap.size 0 w1 H1.out.1 (by omega)).mono ?_
  rintro e w2 ⟨a, c, L, y, q, rfl, hR, hl, hs, hy, hq, hr2, hu2⟩
  have hD : Hid (DrE w a c L w2) := DrE.of H1.out.2 (Nat.le_refl _) hR hl hs hu2
  clear hR hr2 hu2 H1
  go_wp2_with fail
  go_ret
  exact ⟨_, _, _, rfl, hD.out.next (alloc_below _ _)⟩

end Go.Proofs.Ytgjhmpgofmmniaa
