/- Contract of impl.ShapeAt, over the seat's translation. -/
import Derived.Test.YtogjdidmmhghhaaShS6
namespace Go.Proofs.Ytogjdidmmhghhaa
open Go.RowKit Go.WideMaps Go.Maps

def shapeAt (L : List ACol) (nm : ByteArray) : Int := if shapeOk L then placeOf L nm else -1

theorem at_of (L : List ACol) (nm : ByteArray) (hs : shapeOk L = true) (x : Int) (hat : (mapTo L L.length).atKey (kn nm) (.lit (.int .i64 0)) = .lit (.int .i64 x)) (hh : Maps.has (mapTo L L.length) (kn nm) = true) : x = placeOf L nm := by
  obtain ⟨hfi, _, _⟩ := shape_firsts L hs
  rw [map_has L nm L.length (Nat.le_refl _), List.take_length] at hh
  cases hp : L.findIdx? (fun c => same c.nm nm) with
  | none =>
    rw [List.findIdx?_eq_none_iff] at hp
    have : lacks L nm = true := by
      unfold lacks
      rw [List.all_eq_true]
      intro y hy
      simp [hp y hy]
    rw [this] at hh
    cases hh
  | some i =>
    have hp' := hp
    rw [List.findIdx?_eq_some_iff_getElem] at hp
    obtain ⟨hi, hsm, _⟩ := hp
    rw [map_at L nm _ L.length (Nat.le_refl _) hfi i _ hi (List.getElem?_eq_getElem hi) hsm] at hat
    simp only [DataW.lit.injEq, Lit.int.injEq, true_and] at hat
    simp [placeOf, hp', hat.symm]
theorem not_of (L : List ACol) (nm : ByteArray) (hh : Maps.has (mapTo L L.length) (kn nm) = false) : placeOf L nm = -1 := by
  rw [map_has L nm L.length (Nat.le_refl _), List.take_length] at hh
  exact place_none L nm (by simpa using hh)

theorem zero_int (w : World) : (zeroValue 3).run Try.prog w = .ok (.int .i64 0) w := by kernel_rfl

set_option maxRecDepth 100000 in
set_option maxHeartbeats 1000000 in
theorem impl_at (a : Option Addr) (cap : Nat) (L : List ACol) (nm : ByteArray) (w : World) (hL : ColsAt w a L) (hf : ∀ c ∈ L, c.fit) (hm : L.length ≤ maxLen) (hnm : nm.size ≤ maxLen) :
    Calls Try.prog 8 #[.slice a L.length cap, .string nm] w fun e w' => e = .returned (.int .i64 (shapeAt L nm)) ∧ Below w.heap.size w w' := by
  have hkey : keyOf Try.prog 9 (.string nm) = some (kn nm) := keyOf_string_mk Try.underlying9 hnm
  cases hs : shapeOk L
  · go_enter Try.func8, Try.ntmps8
    go_wp2_with (go_at_call 16; refine (impl_shape _ _ _ _ hL hf hm).mono ?_; rintro e w' ⟨rfl, hb⟩)
    go_ret
    refine ⟨?_, ‹Below w.heap.size w _›⟩
    simp [shapeAt, hs]
  · have h5 := (shape_firsts L hs).2.2
    go_enter Try.func8, Try.ntmps8
    go_wp2_with fail
    refine (impl_shape _ _ _ _ hL hf hm).mono ?_
    rintro e w1 ⟨rfl, hb⟩
    have hL2 : Hid (ColsAt w1 a L) := hL.keep hb
    have hP : Hid (Below w.heap.size w w1) := hb
    clear hb hL
    rw [hs]
    go_wp2_with fail
    refine (places_of _ _ _ _ hL2.out hf h5).mono ?_
    rintro e w2 ⟨rfl, hown, hb⟩
    have hO : Hid (w2.ownsMap Try.prog 9 (plainElem Try.prog 3) w1.heap.size L.length (mapTo L L.length)) := hown
    have hQ : Hid (Below w.heap.size w w2) := hP.out.trans (hb.mono hP.out.size)
    clear hb hown hL2 hP
    go_wp2_with (at_lookup; refine wpList_lookup_own_ok_int _ rfl _ _ 41 rfl 9 3 .i64 law Try.underlying41 Try.underlying3 (zero_int _) _ _ _ rfl hO.out _ _ rfl hkey ?_; intro x hat hwx; have hA : Hid ((mapTo L L.length).atKey (kn nm) (.lit (.int .i64 0)) = .lit (.int .i64 x)) := hat; clear hat hwx)
    all_goals
      go_ret
      refine ⟨?_, hQ.out⟩
      first
        | (rw [shapeAt, if_pos hs, not_of L nm (by simp_all)]
           rfl)
        | (rw [shapeAt, if_pos hs, ← at_of L nm hs _ hA.out (by simp_all)]
           rfl)

end Go.Proofs.Ytogjdidmmhghhaa
