/- Rows of ints: compared, marked, held. Over the seat's translation. -/
import Derived.Test.YtnbbmljmofmkbaaIxK1
import Derived.Test.YtnbbmljmofmkbaaOver
namespace Go.Proofs.Ytnbbmljmofmkbaa
open Go.RowKit

/-- The ints L lie in W from where the slice begins. -/
def IntsAt (W : World) (a : Option Addr) (L : List Int) : Prop :=
  L = [] ∨ ∃ b o, a = some ⟨b, o, none⟩ ∧ b < W.heap.size ∧ ∀ i c, L[i]? = some c → W.cell? ⟨b, o + i, none⟩ = some (.int .i64 c)
theorem IntsAt.keep {W W' : World} {a : Option Addr} {L : List Int} (h : IntsAt W a L) (hb : Below W.heap.size W W') : IntsAt W' a L := by
  rcases h with h | ⟨b, o, ha, hlt, hr⟩
  · exact Or.inl h
  · exact Or.inr ⟨b, o, ha, Nat.lt_of_lt_of_le hlt hb.size, fun i c hc => by rw [(bcell hb).1 _ _ hlt]; exact hr i c hc⟩
theorem IntsAt.at {W : World} {a : Option Addr} {L : List Int} (h : IntsAt W a L) {k : Nat} (hk : k < L.length) :
    ∃ b o, a = some ⟨b, o, none⟩ ∧ b < W.heap.size ∧ W.cell? ⟨b, o + k, none⟩ = some (.int .i64 L[k]) := by
  rcases h with h | ⟨b, o, ha, hlt, hr⟩
  · subst h; simp at hk
  · exact ⟨b, o, ha, hlt, hr k _ (List.getElem?_eq_getElem hk)⟩

theorem run_ix1 {P : Program} (t e : TypeId) (b o len cap k : Nat) (w : World) (hk : k < len) (ht : P.underlying t = some (.slice e)) (hs : (sizeOf e).run P w = .ok 1 w) :
    (Instr.indexAt t (.slice (some ⟨b, o, none⟩) len cap) (.int .i64 k)).run P w = .ok (.pointer (some ⟨b, o + k, none⟩)) w := by
  have hE : P.elem t = e := by simp [Program.elem, ht]
  rw [run_indexAt_slice w t _ len cap .i64 k (by rw [hE]; exact ht), if_pos ⟨by omega, by omega⟩, hE, hs]
  simp [Addr.add_mid]
theorem run_ix1o {P : Program} (t e : TypeId) (a : Option Addr) (B len cap k : Nat) (w : World) (ha : a = some ⟨B, 0, none⟩ ∨ len = 0) (hk : k < len) (ht : P.underlying t = some (.slice e)) (hs : (sizeOf e).run P w = .ok 1 w) :
    (Instr.indexAt t (.slice a len cap) (.int .i64 k)).run P w = .ok (.pointer (some ⟨B, k, none⟩)) w := by
  rcases ha with rfl | h
  · have := run_ix1 t e B 0 len cap k w hk ht hs
    rwa [Nat.zero_add] at this
  · omega

set_option maxRecDepth 100000 in
set_option maxHeartbeats 1000000 in
theorem eq_ints (a b : Option Addr) (cap cap' : Nat) (L : List Int) (w : World) (ha : IntsAt w a L) (hb : IntsAt w b L) (hm : L.length ≤ maxLen) :
    Calls Try.prog 26 #[.slice a L.length cap, .slice b L.length cap'] w fun e w' => e = .returned (.bool true) ∧ Below w.heap.size w w' := by
  unfold maxLen at hm
  go_enter Try.func26, Try.ntmps26
  go_wp2_with fail
  go_loopw [5] (fun i wr => ∃ k : Nat, k ≤ L.length ∧ i = .int .i64 k ∧ Hid (Below w.heap.size w wr)) (fun i _ => L.length - (intOf i).toNat)
  case atStart => exact ⟨0, Nat.zero_le _, rfl, Below.refl _ _⟩
  case round =>
    obtain ⟨k, hk, rfl, hH⟩ := hrel
    by_cases hlt : k < L.length
    · obtain ⟨b1, o1, hab1, hbl1, hr1⟩ := (ha.keep hH.out).at hlt
      obtain ⟨b2, o2, hab2, hbl2, hr2⟩ := (hb.keep hH.out).at hlt
      revert hr1 hr2
      generalize L[k] = c
      intro hr1 hr2
      have hix : ∀ wx, (Instr.indexAt 43 (.slice a L.length cap) (.int .i64 k)).run Try.prog wx = .ok (.pointer (some ⟨b1, o1 + k, none⟩)) wx := fun wx => by
        rw [hab1]; exact run_ix1 _ _ _ _ _ _ _ wx hlt Try.underlying43 (Try.sizeOf3 wx)
      have hiy : ∀ wx, (Instr.indexAt 43 (.slice b L.length cap') (.int .i64 k)).run Try.prog wx = .ok (.pointer (some ⟨b2, o2 + k, none⟩)) wx := fun wx => by
        rw [hab2]; exact run_ix1 _ _ _ _ _ _ _ wx hlt Try.underlying43 (Try.sizeOf3 wx)
      clear hab1 hab2 ha hb hbl1 hbl2
      go_wp2_with fail
      go_quiet (fail)
      have hP : Hid (Below w.heap.size w (wr.drewN nq)) := hH.out.trans (quiet_below _ _ _)
      go_wp2_with fail
      go_roundw
      case rel => exact ⟨k + 1, by omega, by go_num, hP⟩
      case measure => simp [intOf]; omega
    · have hkl : k = L.length := by omega
      subst hkl
      go_wp2_with fail
      go_ret
      exact ⟨rfl, hH.out⟩

/-- Block B holds n ints that may be written; the first i bear marks from k on; nothing else has turned. -/
def MarkedI (w : World) (B n k i : Nat) (W : World) : Prop :=
  Turn B w W ∧ B < W.heap.size ∧ W.there B 0 n ∧ ∀ j, j < i → W.cell? ⟨B, j, none⟩ = some (.int .i64 ((k + j : Nat) : Int))
theorem there1_of {W : World} {B n i : Nat} (h : W.there B 0 n) (hi : i < n) : ∃ v, W.cell? ⟨B, i, none⟩ = some v ∧ W.frozen? ⟨B, i, none⟩ = false := by
  have := h i hi
  rw [Nat.zero_add] at this
  simpa [Option.isSome_iff_exists] using this
theorem MarkedI.set {w : World} {B n k i : Nat} {W : World} (h : MarkedI w B n k i W) (hi : i < n) : MarkedI w B n k (i + 1) (W.setCell ⟨B, i, none⟩ (.int .i64 ((k + i : Nat) : Int))) := by
  obtain ⟨h1, h2, h3, h4⟩ := h
  obtain ⟨v, hv, -⟩ := there1_of h3 hi
  refine ⟨h1.set _ _, by simpa [World.setCell] using h2, World.there_setCells h3 B i [.int .i64 ((k + i : Nat) : Int)], fun j hj => ?_⟩
  by_cases hji : j = i
  · subst hji
    exact World.cell?_setCell_same' _ _ _ (by rw [hv]; rfl)
  · have hne : (⟨B, i, none⟩ : Addr) ≠ ⟨B, j, none⟩ := fun e => hji (by simpa using e.symm)
    exact (World.cell?_setCell_other _ _ _ _ hne).trans (h4 j (by omega))

set_option maxRecDepth 100000 in
set_option maxHeartbeats 1000000 in
theorem mark_ints (a : Option Addr) (B n cap k : Nat) (w : World) (ha : a = some ⟨B, 0, none⟩ ∨ n = 0) (hB : B < w.heap.size) (ht : w.there B 0 n) (hn : k + n ≤ 100000000) :
    Calls Try.prog 27 #[.slice a n cap, .int .i64 k] w fun e w' => e = .returned (.int .i64 ((k + n : Nat) : Int)) ∧ MarkedI w B n k n w' := by
  go_enter Try.func27, Try.ntmps27
  go_wp2_with fail
  go_loopw [1, 5] (fun kv iv wr => ∃ i : Nat, i ≤ n ∧ iv = .int .i64 i ∧ kv = .int .i64 ((k + i : Nat) : Int) ∧ Hid (MarkedI w B n k i wr)) (fun _ iv _ => n - (intOf iv).toNat)
  case atStart => exact ⟨0, Nat.zero_le _, rfl, rfl, ⟨Turn.refl _ _, hB, ht, fun j hj => absurd hj (Nat.not_lt_zero _)⟩⟩
  case round =>
    obtain ⟨i, hi, rfl, rfl, hH⟩ := hrel
    clear hB ht
    by_cases hlt : i < n
    · have hix : ∀ wx, (Instr.indexAt 43 (.slice a n cap) (.int .i64 i)).run Try.prog wx = .ok (.pointer (some ⟨B, i, none⟩)) wx := fun wx =>
        run_ix1o _ _ _ _ _ _ _ wx ha hlt Try.underlying43 (Try.sizeOf3 wx)
      have hlt' : (i : Int) < n := by omega
      obtain ⟨x0, hx0, hx1⟩ := there1_of hH.out.2.2.1 hlt
      obtain ⟨q, hq⟩ : ∃ q, q = k + i := ⟨_, rfl⟩
      have hS : Hid (MarkedI w B n k (i + 1) (wr.setCell ⟨B, i, none⟩ (.int .i64 (q : Int)))) := by rw [hq]; exact hH.out.set hlt
      rw [← hq]
      have hQ : Hid (q = k + i) := hq
      have hq1 : q + 1 ≤ 100000000 := by omega
      clear hq hH
      go_wp2_with fail
      go_roundw
      case rel =>
        refine ⟨i + 1, by omega, by go_num, ?_, hS.out⟩
        have := hQ.out
        rw [show k + (i + 1) = q + 1 by omega]
        go_num
      case measure => simp [intOf]; omega
    · have hkl : i = n := by omega
      subst hkl
      go_wp2_with fail
      go_ret
      exact ⟨rfl, hH.out⟩

set_option maxRecDepth 100000 in
set_option maxHeartbeats 1000000 in
theorem held_ints (a : Option Addr) (B n cap k : Nat) (w : World) (ha : a = some ⟨B, 0, none⟩ ∨ n = 0) (hB : B < w.heap.size) (ht : ∀ j, j < n → w.cell? ⟨B, j, none⟩ = some (.int .i64 ((k + j : Nat) : Int))) (hn : k + n ≤ 100000000) :
    Calls Try.prog 28 #[.slice a n cap, .int .i64 k] w fun e w' => e = .returned (.int .i64 ((k + n : Nat) : Int)) ∧ Below w.heap.size w w' := by
  go_enter Try.func28, Try.ntmps28
  go_wp2_with fail
  go_loopw [1, 5] (fun kv iv wr => ∃ i : Nat, i ≤ n ∧ iv = .int .i64 i ∧ kv = .int .i64 ((k + i : Nat) : Int) ∧ Hid (Below w.heap.size w wr)) (fun _ iv _ => n - (intOf iv).toNat)
  case atStart => exact ⟨0, Nat.zero_le _, rfl, rfl, Below.refl _ _⟩
  case round =>
    obtain ⟨i, hi, rfl, rfl, hH⟩ := hrel
    by_cases hlt : i < n
    · have hix : ∀ wx, (Instr.indexAt 43 (.slice a n cap) (.int .i64 i)).run Try.prog wx = .ok (.pointer (some ⟨B, i, none⟩)) wx := fun wx =>
        run_ix1o _ _ _ _ _ _ _ wx ha hlt Try.underlying43 (Try.sizeOf3 wx)
      have hlt' : (i : Int) < n := by omega
      have hc : wr.cell? ⟨B, i, none⟩ = some (.int .i64 ((k + i : Nat) : Int)) := by rw [(bcell hH.out).1 _ _ hB]; exact ht i hlt
      obtain ⟨q, hq⟩ : ∃ q, q = k + i := ⟨_, rfl⟩
      rw [← hq] at hc ⊢
      have hQ : Hid (q = k + i) := hq
      have hq1 : q + 1 ≤ 100000000 := by omega
      clear hq hB ht
      go_wp2_with fail
      go_roundw
      case rel =>
        refine ⟨i + 1, by omega, by go_num, ?_, hH.out⟩
        have := hQ.out
        rw [show k + (i + 1) = q + 1 by omega]
        go_num
      case measure => simp [intOf]; omega
    · have hkl : i = n := by omega
      subst hkl
      go_wp2_with fail
      go_ret
      exact ⟨rfl, hH.out⟩

end Go.Proofs.Ytnbbmljmofmkbaa
