/- The contract of impl.ShapeOk, over the seat's translation. -/
import Derived.Test.YtddcmibggdighaaShS5
import Derived.Test.YtddcmibggdighaaColC2
namespace Go.Proofs.Ytddcmibggdighaa
open Go.RowKit Go.WideMaps Go.Maps

set_option maxHeartbeats 1000000 in
theorem impl_shape (a : Option Addr) (cap : Nat) (L : List ACol) (w : World) (hL : ColsAt w a L) (hf : ∀ c ∈ L, c.fit) (hm : L.length ≤ maxLen) :
    Calls Try.prog 13 #[.slice a L.length cap] w fun e w' => e = .returned (.bool (shapeOk L)) ∧ Below w.heap.size w w' := by
  have hm' := hm
  unfold maxLen at hm'
  by_cases h1 : 1 ≤ L.length ∧ L.length ≤ 5
  · obtain ⟨h1, h5⟩ := h1
    have h1' : ¬ (L.length : Int) < 1 := by omega
    have h5' : ¬ (5 : Int) < L.length := by omega
    go_enter Try.func13, Try.ntmps13
    go_wp2_with fail
    go_loopw [15] (fun i wr => ∃ k : Nat, k ≤ L.length ∧ i = .int .i64 k ∧ Hid (allOk L k ∧ Below w.heap.size w wr)) (fun i _ => L.length - (intOf i).toNat)
    case atStart => exact ⟨0, Nat.zero_le _, rfl, ⟨fun i c hi => absurd hi (Nat.not_lt_zero _), Below.refl _ _⟩⟩
    case round =>
      obtain ⟨k, hk, rfl, hH⟩ := hrel
      have hL' := hL.keep hH.out.2
      by_cases hlt : k < L.length
      · obtain ⟨b, o, hab, hbl, hr⟩ := hL'.at hlt
        have hck := List.getElem?_eq_getElem hlt
        have hft := hf _ (List.getElem_mem hlt)
        revert hr hck hft
        generalize L[k] = c
        intro hr hck hft
        have hix : ∀ wx, (Instr.indexAt 23 (.slice a L.length cap) (.int .i64 k)).run Try.prog wx = .ok (.pointer (some ⟨b, o + k * 7, none⟩)) wx := fun wx => by
          rw [hab]; exact run_ix _ _ _ _ _ _ _ wx hlt Try.underlying23 (Try.sizeOf31 wx)
        have hld := cells7_of hr
        have hck' : Hid (L[k]? = some c) := hck
        clear hab hr hL hL' hck
        cases hco : c.ok
        · have hco' : colOk c.nm c.kd c.oc c.k c.n c.s = false := hco
          go_wp2_with (go_at_call 27; refine (impl_col _ _ _ _ _ _ _ _ hft.1 hft.2).mono ?_; rintro e w' ⟨rfl, hq⟩; have hP : Hid (Below w.heap.size w w') := (hH.out.2.alloc hH.out.2.size _).trans (hq.mono (by have := hH.out.2.size; simp; omega)); clear hq)
          go_ret
          exact ⟨ret_bool (shape_bad L k c hck'.out hco).symm, hP.out⟩
        · have hco' : colOk c.nm c.kd c.oc c.k c.n c.s = true := hco
          go_wp2_with (go_at_call 27; refine (impl_col _ _ _ _ _ _ _ _ hft.1 hft.2).mono ?_; rintro e w' ⟨rfl, hq⟩; have hP : Hid (Below w.heap.size w w') := (hH.out.2.alloc hH.out.2.size _).trans (hq.mono (by have := hH.out.2.size; simp; omega)); clear hq)
          go_roundw
          case rel =>
            refine ⟨k + 1, by omega, by go_num, ⟨fun i d hi hd => ?_, hP.out⟩⟩
            by_cases hik : i = k
            · subst hik
              rw [hck'.out] at hd
              cases hd
              exact hco
            · exact hH.out.1 i d (by omega) hd
          case measure => simp [intOf]; omega
      · have hkl : k = L.length := by omega
        subst hkl
        have hsz := shape_size L h1 h5 hH.out.1
        go_wp2_with (first
          | (go_at_call 28; refine (places_of _ _ _ _ hL' hf h5).mono ?_; rintro e w' ⟨rfl, hown, hq⟩; have hP : Hid (Below w.heap.size w w') := hH.out.2.trans (hq.mono hH.out.2.size); have hO : Hid (w'.ownsMap Try.prog 9 (plainElem Try.prog 3) wr.heap.size L.length (mapTo L L.length)) := hown; clear hq hown)
          | (at_len; refine wpList_len_own _ rfl _ 67 rfl 9 3 Try.underlying67 _ _ _ _ rfl hO.out ?_))
        go_ret
        refine ⟨?_, hP.out⟩
        rw [hsz]
        rfl
  · go_enter Try.func13, Try.ntmps13
    go_wp2_with fail
    all_goals
      first
        | (exfalso; omega)
        | (go_ret
           exact ⟨ret_bool (shape_long L h1).symm, Below.refl _ _⟩)

end Go.Proofs.Ytddcmibggdighaa
