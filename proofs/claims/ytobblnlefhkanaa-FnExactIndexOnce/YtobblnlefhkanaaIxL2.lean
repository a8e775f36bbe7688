/- The walk of laws.FnExactIndexOnce, over the seat's translation. -/
import Derived.Test.YtobblnlefhkanaaIxO1
import Derived.Test.YtobblnlefhkanaaIxO2
import Derived.Test.YtobblnlefhkanaaIxZ
import Derived.Test.YtobblnlefhkanaaIxC
import Derived.Test.YtobblnlefhkanaaIxE
import Derived.Test.YtobblnlefhkanaaIxLies
namespace Go.Proofs.Ytobblnlefhkanaa
open Go.RowKit

set_option maxRecDepth 100000 in
set_option maxHeartbeats 2000000 in
theorem law_once (a : Option Addr) (cap : Nat) (L : List AEnt) (w : World) (hL : EntsAt w a L) (hf : ∀ c ∈ L, c.fit) (hm : L.length ≤ maxLen) :
    Calls Try.prog 4 #[.slice a L.length cap] w fun e w' => e = .returned (.bool true) ∧ Below w.heap.size w w' := by
  have h0 : LiesE w a L w := ⟨hL, Below.refl _ _⟩
  go_enter Try.func4, Try.ntmps4
  go_wp2_with fail
  refine (sz_entries _ _ _ _ _ hL hf hm (by omega) (by omega)).mono ?_
  rintro e w1 ⟨z, rfl, hR, hb⟩
  have h1 := liese_next h0 hb
  clear h0 hb hL
  rcases hR with rfl | ⟨hz, hzl, h20⟩
  · have H1 : Hid (LiesE w a L w1) := h1
    clear h1
    go_wp2_with fail
    go_ret
    exact ⟨rfl, H1.out.2⟩
  have H20 : Hid (L.length ≤ 1048576) := h20
  clear h20
  go_wp2_with fail
  refine (to_entries _ _ _ _ h1.1 H20.out).mono ?_
  rintro e w2 ⟨rfl, hN⟩
  have h2 : Hid (LiesE w a L w2) := liese_next h1 hN.1
  have hA := hN.ents
  clear hN h1
  generalize w1.heap.size = g1 at *
  go_wp2_with fail
  refine (spec_once _ _ _ _ hA hf hm).mono ?_
  rintro e w3 ⟨rfl, hb⟩
  have h3 : Hid (LiesE w a L w3) := liese_next h2.out hb
  clear hb h2 hA
  obtain ⟨r, hr⟩ : ∃ r, r = onceOk L := ⟨_, rfl⟩
  rw [← hr]
  have HR : Hid (r = onceOk L) := hr
  clear hr
  go_wp2_with fail
  refine (to_entries _ _ _ _ h3.out.1 H20.out).mono ?_
  rintro e w4 ⟨rfl, hN⟩
  have h4 : Hid (LiesE w a L w4) := liese_next h3.out hN.1
  have hA := hN.ents
  clear hN h3
  generalize w3.heap.size = g3 at *
  go_wp2_with fail
  refine (impl_once _ _ _ _ hA (fun h => by cases h) hf hm).mono ?_
  rintro e w5 ⟨rfl, hb⟩
  rw [← HR.out]
  have h5 : Hid (LiesE w a L w5) := liese_next h4.out hb
  have hA5 : Hid (EntsAt w5 (some ⟨g3, 0, none⟩) L) := hA.keep hb
  clear hb h4 hA
  go_wp2_with fail
  refine (to_entries _ _ _ _ h5.out.1 H20.out).mono ?_
  rintro e w6 ⟨rfl, hN⟩
  have h6 : Hid (LiesE w a L w6) := liese_next h5.out hN.1
  have hA6 : Hid (EntsAt w6 (some ⟨g3, 0, none⟩) L) := hA5.out.keep hN.1
  have hB6 := hN.ents
  clear hN h5 hA5
  go_wp2_with fail
  refine (eq_entries _ _ _ _ _ _ hA6.out hB6 hm).mono ?_
  rintro e w7 ⟨rfl, hb⟩
  have h7 : Hid (LiesE w a L w7) := liese_next h6.out hb
  clear hb h6 hA6 hB6
  go_wp2_with fail
  go_ret
  exact ⟨rfl, h7.out.2⟩

end Go.Proofs.Ytobblnlefhkanaa
