/- The contract of impl.RowOk, over the seat's translation. -/
import Derived.Test.YtddcmibggdighaaRwS4
namespace Go.Proofs.Ytddcmibggdighaa
open Go.RowKit

theorem one_fits (c : ACol) (v : AVal) : oneOk c v = (fitsOk c.kd v.k v.n v.s && (!c.nd || !(v.k == 0))) := by
  unfold oneOk fitsOk AVal.ok
  cases valOk v.k v.n v.s <;> cases (v.k == 0 || v.k == c.kd) <;> rfl

/-- The box at B holds the column in W. -/
abbrev Box7 (W : World) (B : Nat) (c : ACol) : Prop :=
  W.cell? ⟨B, 0, none⟩ = some (.string c.nm) ∧ W.cell? ⟨B, 1, none⟩ = some (.int .i64 c.kd) ∧ W.cell? ⟨B, 2, none⟩ = some (.bool c.nd) ∧ W.cell? ⟨B, 3, none⟩ = some (.bool c.oc) ∧
    W.cell? ⟨B, 4, none⟩ = some (.int .i64 c.k) ∧ W.cell? ⟨B, 5, none⟩ = some (.int .i64 c.n) ∧ W.cell? ⟨B, 6, none⟩ = some (.string c.s)
theorem box7_next {W W' : World} {B : Nat} {c : ACol} (h : Box7 W B c) (hlt : B < W.heap.size) (hb : Below W.heap.size W W') : Box7 W' B c := by
  have hc := fun x => (bcell hb).1 B x hlt
  unfold Box7
  simp only [hc]
  exact h
theorem box7_new (W : World) (c : ACol) (t : TypeId) : Box7 (W.alloc (.cells #[.string c.nm, .int .i64 c.kd, .bool c.nd, .bool c.oc, .int .i64 c.k, .int .i64 c.n, .string c.s] t)) W.heap.size c := by
  refine ⟨?_, ?_, ?_, ?_, ?_, ?_, ?_⟩
  all_goals go_simp

/-- A column in a box of its own and a value lie in W, and W lies over w. -/
abbrev BoxVal (w : World) (b1 b2 o2 : Nat) (c : ACol) (v : AVal) (W : World) : Prop := Box7 W b1 c ∧ Cells3 W b2 o2 v ∧ b1 < W.heap.size ∧ b2 < W.heap.size ∧ Below w.heap.size w W
theorem boxval_next {w : World} {b1 b2 o2 : Nat} {c : ACol} {v : AVal} {W W' : World} (h : BoxVal w b1 b2 o2 c v W) (hb : Below W.heap.size W W') : BoxVal w b1 b2 o2 c v W' := by
  obtain ⟨h1, h2, h3, h4, h5⟩ := h
  have hz := hb.size
  exact ⟨box7_next h1 h3 hb, cells3_next h2 h4 hb, by omega, by omega, h5.trans (hb.mono h5.size)⟩

set_option maxRecDepth 100000 in
set_option maxHeartbeats 4000000 in
theorem impl_row (a b : Option Addr) (cap cap' : Nat) (L : List ACol) (V : List AVal) (w : World) (ha : ColsAt w a L) (hb : ValsAt w b V) (hf : ∀ c ∈ L, c.fit) (hg : ∀ v ∈ V, v.fit) (hm : L.length ≤ maxLen) (hm2 : V.length ≤ maxLen) :
    Calls Try.prog 5 #[.slice a L.length cap, .slice b V.length cap'] w fun e w' => e = .returned (.bool (rowOk L V)) ∧ Below w.heap.size w w' := by
  have hm3 := hm
  have hm4 := hm2
  unfold maxLen at hm3 hm4
  cases hs : shapeOk L
  · go_enter Try.func5, Try.ntmps5
    go_wp2_with (go_at_call 13; refine (impl_shape _ _ _ _ ha hf hm).mono ?_; rintro e w' ⟨rfl, hq⟩)
    go_ret
    refine ⟨ret_bool ?_, ‹Below w.heap.size w _›⟩
    simp [rowOk, hs]
  by_cases hlen : V.length = L.length
  · go_enter Try.func5, Try.ntmps5
    rw [hlen]
    have hE : Hid (V.length = L.length) := hlen
    clear hlen
    go_wp2_with (go_at_call 13; refine (impl_shape _ _ _ _ ha hf hm).mono ?_; rintro e w' ⟨rfl, hq⟩; have hB0 : Hid (Below w.heap.size w w') := hq; clear hq)
    go_loopw [19] (fun i wr => ∃ k : Nat, k ≤ L.length ∧ i = .int .i64 k ∧ Hid (rowTo L V k = true ∧ Below w.heap.size w wr)) (fun i _ => L.length - (intOf i).toNat)
    case atStart => exact ⟨0, Nat.zero_le _, rfl, ⟨(rfl : rowTo L V 0 = true), hB0.out⟩⟩
    case round =>
      obtain ⟨k, hk, rfl, hH⟩ := hrel
      clear hB0
      by_cases hlt : k < L.length
      · have hlt2 : k < V.length := by have := hE.out; omega
        obtain ⟨b1, o1, hab1, hbl1, hr1⟩ := (ha.keep hH.out.2).at hlt
        obtain ⟨b2, o2, hab2, hbl2, hr2⟩ := (hb.keep hH.out.2).at hlt2
        have hc1 := List.getElem?_eq_getElem hlt
        have hc2 := List.getElem?_eq_getElem hlt2
        have hft := hg _ (List.getElem_mem hlt2)
        revert hr1 hr2 hc1 hc2 hft
        generalize L[k] = c
        generalize V[k] = v
        intro hr1 hr2 hc1 hc2 hft
        have hix : ∀ wx, (Instr.indexAt 23 (.slice a L.length cap) (.int .i64 k)).run Try.prog wx = .ok (.pointer (some ⟨b1, o1 + k * 7, none⟩)) wx := fun wx => by
          rw [hab1]; exact run_ix _ _ _ _ _ _ _ wx hlt Try.underlying23 (Try.sizeOf31 wx)
        have hiy : ∀ wx, (Instr.indexAt 24 (.slice b L.length cap') (.int .i64 k)).run Try.prog wx = .ok (.pointer (some ⟨b2, o2 + k * 3, none⟩)) wx := fun wx => by
          rw [hab2]; exact run_ix3 _ _ _ _ _ _ _ wx hlt Try.underlying24 (Try.sizeOf29 wx)
        have hT := cells7_of hr1
        have hS : BoxVal w wr.heap.size b2 (o2 + k * 3) c v (wr.alloc (.cells #[.string c.nm, .int .i64 c.kd, .bool c.nd, .bool c.oc, .int .i64 c.k, .int .i64 c.n, .string c.s] 31)) :=
          ⟨box7_new _ _ _, cells3_next (cells3_of hr2) hbl2 ((Below.refl _ _).alloc (Nat.le_refl _) _), by simp, by simp; omega, hH.out.2.alloc hH.out.2.size _⟩
        have hC : Hid (L[k]? = some c ∧ V[k]? = some v) := ⟨hc1, hc2⟩
        clear hab1 hab2 hr1 hr2 ha hb hbl1 hbl2 hc1 hc2 hlt2
        have inh : Nonempty (Over (BoxVal w wr.heap.size b2 (o2 + k * 3) c v)) := ⟨⟨_, hS⟩⟩
        have f0 : ∀ p : Over (BoxVal w wr.heap.size b2 (o2 + k * 3) c v), Box7 p.W wr.heap.size c := fun p => p.ok.1
        have f1 : ∀ p : Over (BoxVal w wr.heap.size b2 (o2 + k * 3) c v), Cells3 p.W b2 (o2 + k * 3) v := fun p => p.ok.2.1
        cases hok : fitsOk c.kd v.k v.n v.s
        · have hcon : ∀ (x : Bool) (W : World), Calls Try.prog 14 #[.agg #[.string c.nm, .int .i64 c.kd, .bool x, .bool c.oc, .int .i64 c.k, .int .i64 c.n, .string c.s], .agg #[.int .i64 v.k, .int .i64 v.n, .string v.s]] W fun e w' => e = .returned (.bool false) ∧ Below W.heap.size W w' := fun x W => by
            have := fits_ok c.nm c.kd x c.oc c.k c.n c.s v.k v.n v.s W hft
            rwa [hok] at this
          go_wp2_with fail
          refine wp_region_over (S := BoxVal w wr.heap.size b2 (o2 + k * 3) c v) (by kernel_rfl) (by kernel_rfl) (boxval_next hS (Below.refl _ _).drew) ?_
          repeat (go_big_quiet_step (exact over_call (hcon _ _) (fun _ h => boxval_next (Over.ok _) h)))
          refine wpQuiet_nil ?_
          rintro wq ⟨p, hp⟩
          have hq := p.ok
          rw [← hp] at hq
          clear hp p f0 f1 inh hS
          go_wp2_with fail
          go_ret
          exact ⟨ret_bool (row_bad L V k c v hC.out.1 hC.out.2 (by simp only [one_fits, hok, Bool.false_and])).symm, hq.2.2.2.2⟩
        · have hcon : ∀ (x : Bool) (W : World), Calls Try.prog 14 #[.agg #[.string c.nm, .int .i64 c.kd, .bool x, .bool c.oc, .int .i64 c.k, .int .i64 c.n, .string c.s], .agg #[.int .i64 v.k, .int .i64 v.n, .string v.s]] W fun e w' => e = .returned (.bool true) ∧ Below W.heap.size W w' := fun x W => by
            have := fits_ok c.nm c.kd x c.oc c.k c.n c.s v.k v.n v.s W hft
            rwa [hok] at this
          go_wp2_with fail
          refine wp_region_over (S := BoxVal w wr.heap.size b2 (o2 + k * 3) c v) (by kernel_rfl) (by kernel_rfl) (boxval_next hS (Below.refl _ _).drew) ?_
          cases hnd : c.nd
          · repeat (go_big_quiet_step (exact over_call (hcon _ _) (fun _ h => boxval_next (Over.ok _) h)))
            refine wpQuiet_nil ?_
            rintro wq ⟨p, hp⟩
            have hq := p.ok
            rw [← hp] at hq
            clear hp p f0 f1 inh hS
            go_wp2_with fail
            go_roundw
            case rel => exact ⟨k + 1, by omega, by go_num, ⟨rowTo_next L V k c v hC.out.1 hC.out.2 hH.out.1 (by simp only [one_fits, hok, hnd, Bool.and_true, Bool.true_or, Bool.not_false]), hq.2.2.2.2⟩⟩
            case measure => simp [intOf]; omega
          · cases hk1 : (v.k == 0)
            · repeat (go_big_quiet_step (exact over_call (hcon _ _) (fun _ h => boxval_next (Over.ok _) h)))
              refine wpQuiet_nil ?_
              rintro wq ⟨p, hp⟩
              have hq := p.ok
              rw [← hp] at hq
              clear hp p f0 f1 inh hS
              go_wp2_with fail
              go_roundw
              case rel => exact ⟨k + 1, by omega, by go_num, ⟨rowTo_next L V k c v hC.out.1 hC.out.2 hH.out.1 (by simp only [one_fits, hok, hnd, hk1, Bool.and_true, Bool.or_true, Bool.not_true, Bool.not_false]), hq.2.2.2.2⟩⟩
              case measure => simp [intOf]; omega
            · repeat (go_big_quiet_step (exact over_call (hcon _ _) (fun _ h => boxval_next (Over.ok _) h)))
              refine wpQuiet_nil ?_
              rintro wq ⟨p, hp⟩
              have hq := p.ok
              rw [← hp] at hq
              clear hp p f0 f1 inh hS
              go_wp2_with fail
              go_ret
              exact ⟨ret_bool (row_bad L V k c v hC.out.1 hC.out.2 (by simp only [one_fits, hok, hnd, hk1, Bool.and_false, Bool.or_false, Bool.not_true])).symm, hq.2.2.2.2⟩
      · have hkl : k = L.length := by omega
        subst hkl
        go_wp2_with fail
        go_ret
        refine ⟨ret_bool ?_, hH.out.2⟩
        simp [rowOk, hs, hE.out, hH.out.1]
  · go_enter Try.func5, Try.ntmps5
    go_wp2_with (go_at_call 13; refine (impl_shape _ _ _ _ ha hf hm).mono ?_; rintro e w' ⟨rfl, hq⟩)
    all_goals
      first
        | (exfalso; omega)
        | (go_ret
           refine ⟨ret_bool ?_, ‹Below w.heap.size w _›⟩
           simp [rowOk, hlen])

end Go.Proofs.Ytddcmibggdighaa
