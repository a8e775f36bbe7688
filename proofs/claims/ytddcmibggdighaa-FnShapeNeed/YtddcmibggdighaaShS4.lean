/- The contract of impl.places: a map of names; over the seat's translation. -/
import Derived.Test.YtddcmibggdighaaShS3
import Derived.Maps.OwnSet
import Derived.Maps.Views
namespace Go.Proofs.Ytddcmibggdighaa
open Go.RowKit Go.WideMaps Go.Maps

theorem law : Keyed Try.prog 9 := string_keyed Try.underlying9

abbrev kn (s : ByteArray) : Lit := .string s.data.toList
/-- The map of names behind the first k columns. -/
def mapTo (L : List ACol) : Nat → DataW Unit
  | 0 => .map []
  | k + 1 => match L[k]? with
    | some c => (mapTo L k).put (kn c.nm) (.lit (.int .i64 k))
    | none => mapTo L k
theorem mapTo_next (L : List ACol) (k : Nat) (c : ACol) (h : L[k]? = some c) : mapTo L (k + 1) = (mapTo L k).put (kn c.nm) (.lit (.int .i64 k)) := by
  simp [mapTo, h]

theorem run_makeMap_room (n : Int) (w : World) : (Instr.makeMap 67 (some (.int .i64 n))).run Try.prog w = .ok (.map (some w.heap.size)) (w.alloc (.map #[] 0)) := by
  simp only [Instr.makeMap, Sem.run_bind, run_underlying Try.underlying67 w, Result.andThen_ok]
  rfl

set_option maxHeartbeats 1000000 in
theorem places_of (a : Option Addr) (cap : Nat) (L : List ACol) (w : World) (hL : ColsAt w a L) (hf : ∀ c ∈ L, c.fit) (hm : L.length ≤ 5) :
    Calls Try.prog 28 #[.slice a L.length cap] w fun e w' => e = .returned (.map (some w.heap.size)) ∧ w'.ownsMap Try.prog 9 (plainElem Try.prog 3) w.heap.size L.length (mapTo L L.length) ∧ Below w.heap.size w w' := by
  have hmm := run_makeMap_room
  go_enter Try.func28, Try.ntmps28
  go_wp2_with fail
  go_loopw [11] (fun i wr => ∃ k : Nat, k ≤ L.length ∧ i = .int .i64 k ∧ Hid (wr.ownsMap Try.prog 9 (plainElem Try.prog 3) w.heap.size k (mapTo L k)) ∧ Hid (Below w.heap.size w wr)) (fun i _ => L.length - (intOf i).toNat)
  case atStart => exact ⟨0, Nat.zero_le _, rfl, (World.ownsMap_made w Try.prog 9 (plainElem Try.prog 3) : _), (Below.refl _ _).alloc (Nat.le_refl _) _⟩
  case round =>
    obtain ⟨k, hk, rfl, hown, hH⟩ := hrel
    clear hmm
    by_cases hlt : k < L.length
    · obtain ⟨b, o, hab, hbl, hr⟩ := (hL.keep hH.out).at hlt
      have hck := List.getElem?_eq_getElem hlt
      have hft := hf _ (List.getElem_mem hlt)
      revert hr hck hft
      generalize L[k] = c
      intro hr hck hft
      have hix : ∀ wx, (Instr.indexAt 23 (.slice a L.length cap) (.int .i64 k)).run Try.prog wx = .ok (.pointer (some ⟨b, o + k * 7, none⟩)) wx := fun wx => by
        rw [hab]; exact run_ix _ _ _ _ _ _ _ wx hlt Try.underlying23 (Try.sizeOf31 wx)
      have hld := cells7_of hr
      have hmap : Hid (mapTo L (k + 1) = (mapTo L k).put (kn c.nm) (.lit (.int .i64 k))) := mapTo_next L k c hck
      have hkey : keyOf Try.prog 9 (.string c.nm) = some (kn c.nm) := keyOf_string_mk Try.underlying9 hft.1
      clear hab hr hL hck
      go_wp2_with (at_mapUpdate; refine wpList_mapUpdate_own _ rfl _ _ _ 67 rfl 9 3 law Try.underlying67 _ w.heap.size k _ rfl (hown.out.alloc _) (by unfold maxLen; omega) _ _ _ rfl rfl hkey _ [] (plainElem_int Try.underlying3 (WalkArith.wf_i64 (by omega))) ?_; intro w1 hown1 hgrow1)
      have R1 : Hid (w1.ownsMap Try.prog 9 (plainElem Try.prog 3) w.heap.size (k + 1) (mapTo L (k + 1))) := by rw [hmap.out]; exact hown1
      have R2 : Hid (Below w.heap.size w w1) := (hH.out.alloc hH.out.size _).grown hgrow1 (by have := hH.out.size; simp; omega) (fun j hj => by cases hj; exact Nat.le_refl _)
      clear hown1 hgrow1 hown hld hmap hkey hH
      go_wp2_with fail
      go_roundw
      case rel => exact ⟨k + 1, by omega, by go_num, R1, R2⟩
      case measure => simp [intOf]; omega
    · have hkl : k = L.length := by omega
      subst hkl
      go_wp2_with fail
      go_ret
      exact ⟨rfl, hown.out, hH.out⟩

end Go.Proofs.Ytddcmibggdighaa
