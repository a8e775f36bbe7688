/- Contracts of spec.RowOk and impl.RowOk, over the seat's translation. -/
import Derived.Test.YtddcmibggdighaaRwA
import Derived.Test.YtddcmibggdighaaShS6
import Derived.Test.YtddcmibggdighaaOver
namespace Go.Proofs.Ytddcmibggdighaa
open Go.RowKit

/-- A value is right for a column. -/
def oneOk (c : ACol) (v : AVal) : Bool := v.ok && ((v.k == 0 || v.k == c.kd) && (!c.nd || !(v.k == 0)))
def rowTo (L : List ACol) (V : List AVal) (k : Nat) : Bool := (List.range k).all fun i => match L[i]?, V[i]? with | some c, some v => oneOk c v | _, _ => false
def rowOk (L : List ACol) (V : List AVal) : Bool := shapeOk L && (decide (V.length = L.length) && rowTo L V L.length)

theorem rowTo_next (L : List ACol) (V : List AVal) (k : Nat) (c : ACol) (v : AVal) (hc : L[k]? = some c) (hv : V[k]? = some v) (a : rowTo L V k = true) (b : oneOk c v = true) : rowTo L V (k + 1) = true := by
  unfold rowTo at *
  rw [List.range_succ, List.all_append, a]
  simp [hc, hv, b]
theorem row_bad (L : List ACol) (V : List AVal) (k : Nat) (c : ACol) (v : AVal) (hc : L[k]? = some c) (hv : V[k]? = some v) (b : oneOk c v = false) : rowOk L V = false := by
  have : rowTo L V L.length = false := by
    unfold rowTo
    rw [List.all_eq_false]
    exact ⟨k, List.mem_range.2 (List.getElem?_eq_some_iff.1 hc).1, by simp [hc, hv, b]⟩
  simp [rowOk, this]

/-- A column and a value lie in W, and W lies over w. -/
abbrev ColVal (w : World) (b1 o1 b2 o2 : Nat) (c : ACol) (v : AVal) (W : World) : Prop := Cells7 W b1 o1 c ∧ Cells3 W b2 o2 v ∧ b1 < W.heap.size ∧ b2 < W.heap.size ∧ Below w.heap.size w W

theorem colval_next {w : World} {b1 o1 b2 o2 : Nat} {c : ACol} {v : AVal} {W W' : World} (h : ColVal w b1 o1 b2 o2 c v W) (hb : Below W.heap.size W W') : ColVal w b1 o1 b2 o2 c v W' := by
  obtain ⟨h1, h2, h3, h4, h5⟩ := h
  have hz := hb.size
  exact ⟨cells7_next h1 h3 hb, cells3_next h2 h4 hb, by omega, by omega, h5.trans (hb.mono h5.size)⟩
theorem colval_drew {w : World} {b1 o1 b2 o2 : Nat} {c : ACol} {v : AVal} {W : World} (h : ColVal w b1 o1 b2 o2 c v W) : ColVal w b1 o1 b2 o2 c v W.drew := colval_next h (Below.refl _ _).drew

set_option maxRecDepth 100000 in
set_option maxHeartbeats 4000000 in
theorem spec_row (a b : Option Addr) (cap cap' : Nat) (L : List ACol) (V : List AVal) (w : World) (ha : ColsAt w a L) (hb : ValsAt w b V) (hf : ∀ c ∈ L, c.fit) (hg : ∀ v ∈ V, v.fit) (hm : L.length ≤ maxLen) (hm2 : V.length ≤ maxLen) :
    Calls Try.prog 6 #[.slice a L.length cap, .slice b V.length cap'] w fun e w' => e = .returned (.bool (rowOk L V)) ∧ Below w.heap.size w w' := by
  have hm3 := hm
  have hm4 := hm2
  unfold maxLen at hm3 hm4
  cases hs : shapeOk L
  · go_enter Try.func6, Try.ntmps6
    go_wp2_with (go_at_call 15; refine (spec_shape _ _ _ _ ha hf hm).mono ?_; rintro e w' ⟨rfl, hq⟩)
    go_ret
    refine ⟨ret_bool ?_, ‹Below w.heap.size w _›⟩
    simp [rowOk, hs]
  by_cases hlen : V.length = L.length
  · go_enter Try.func6, Try.ntmps6
    rw [hlen]
    have hE : Hid (V.length = L.length) := hlen
    clear hlen
    go_wp2_with (go_at_call 15; refine (spec_shape _ _ _ _ ha hf hm).mono ?_; rintro e w' ⟨rfl, hq⟩; have hB0 : Hid (Below w.heap.size w w') := hq; clear hq)
    go_loopw [5] (fun i wr => ∃ k : Nat, k ≤ L.length ∧ i = .int .i64 k ∧ Hid (rowTo L V k = true ∧ Below w.heap.size w wr)) (fun i _ => L.length - (intOf i).toNat)
    case atStart => exact ⟨0, Nat.zero_le _, rfl, ⟨(rfl : rowTo L V 0 = true), hB0.out⟩⟩
    case round =>
      obtain ⟨k, hk, rfl, hH⟩ := hrel
      clear hB0
      by_cases hlt : k < L.length
      · have hlt2 : k < V.length := by have := hE.out; omega
        obtain ⟨b1, o1, hab1, hbl1, hr1⟩ := (ha.keep hH.out.2).at hlt
        obtain ⟨b2, o2, hab2, hbl2, hr2⟩ := (hb.keep hH.out.2).at hlt2
        have hc1 := List.getElem?_eq_getElem hlt
        have hc2 := List.getElem?_eq_getElem hlt2
        have hft := hg _ (List.getElem_mem hlt2)
        revert hr1 hr2 hc1 hc2 hft
        generalize L[k] = c
        generalize V[k] = v
        intro hr1 hr2 hc1 hc2 hft
        have hix : ∀ wx, (Instr.indexAt 23 (.slice a L.length cap) (.int .i64 k)).run Try.prog wx = .ok (.pointer (some ⟨b1, o1 + k * 7, none⟩)) wx := fun wx => by
          rw [hab1]; exact run_ix _ _ _ _ _ _ _ wx hlt Try.underlying23 (Try.sizeOf31 wx)
        have hiy : ∀ wx, (Instr.indexAt 24 (.slice b L.length cap') (.int .i64 k)).run Try.prog wx = .ok (.pointer (some ⟨b2, o2 + k * 3, none⟩)) wx := fun wx => by
          rw [hab2]; exact run_ix3 _ _ _ _ _ _ _ wx hlt Try.underlying24 (Try.sizeOf29 wx)
        have hT : ColVal w b1 (o1 + k * 7) b2 (o2 + k * 3) c v wr := ⟨cells7_of hr1, cells3_of hr2, hbl1, hbl2, hH.out.2⟩
        have hC : Hid (L[k]? = some c ∧ V[k]? = some v) := ⟨hc1, hc2⟩
        clear hab1 hab2 hr1 hr2 ha hb hbl1 hbl2 hc1 hc2 hlt2
        have inh : Nonempty (Over (ColVal w b1 (o1 + k * 7) b2 (o2 + k * 3) c v)) := ⟨⟨wr, hT⟩⟩
        have f0 : ∀ p : Over (ColVal w b1 (o1 + k * 7) b2 (o2 + k * 3) c v), Cells7 p.W b1 (o1 + k * 7) c := fun p => p.ok.1
        have f1 : ∀ p : Over (ColVal w b1 (o1 + k * 7) b2 (o2 + k * 3) c v), Cells3 p.W b2 (o2 + k * 3) v := fun p => p.ok.2.1
        cases hok : valOk v.k v.n v.s
        · have hcon : ∀ W, Calls Try.prog 16 #[.agg #[.int .i64 v.k, .int .i64 v.n, .string v.s]] W fun e w' => e = .returned (.bool false) ∧ Below W.heap.size W w' := fun W => by
            have := spec_ok v.k v.n v.s W hft
            rwa [hok] at this
          go_wp2_with fail
          refine wp_region_over (S := ColVal w b1 (o1 + k * 7) b2 (o2 + k * 3) c v) (by kernel_rfl) (by kernel_rfl) (colval_drew hT) ?_
          repeat (go_big_quiet_step (exact over_call (hcon _) (fun _ h => colval_next (Over.ok _) h)))
          refine wpQuiet_nil ?_
          rintro wq ⟨p, hp⟩
          have hq := p.ok
          rw [← hp] at hq
          clear hp p f0 f1 inh
          go_wp2_with fail
          go_ret
          exact ⟨ret_bool (row_bad L V k c v hC.out.1 hC.out.2 (by simp only [oneOk, AVal.ok, hok, Bool.false_and])).symm, hq.2.2.2.2⟩
        · have hcon : ∀ W, Calls Try.prog 16 #[.agg #[.int .i64 v.k, .int .i64 v.n, .string v.s]] W fun e w' => e = .returned (.bool true) ∧ Below W.heap.size W w' := fun W => by
            have := spec_ok v.k v.n v.s W hft
            rwa [hok] at this
          by_cases hk0 : v.k = 0
          · have hk1 : (v.k == 0) = true := by rw [hk0]; rfl
            have hk2 : (v.k != 0) = false := by rw [hk0]; rfl
            clear hk0
            cases hnd : c.nd
            · go_wp2_with fail
              refine wp_region_over (S := ColVal w b1 (o1 + k * 7) b2 (o2 + k * 3) c v) (by kernel_rfl) (by kernel_rfl) (colval_drew hT) ?_
              repeat (go_big_quiet_step (exact over_call (hcon _) (fun _ h => colval_next (Over.ok _) h)))
              refine wpQuiet_nil ?_
              rintro wq ⟨p, hp⟩
              have hq := p.ok
              rw [← hp] at hq
              clear hp p f0 f1 inh
              go_wp2_with fail
              go_roundw
              case rel => exact ⟨k + 1, by omega, by go_num, ⟨rowTo_next L V k c v hC.out.1 hC.out.2 hH.out.1 (by simp only [oneOk, AVal.ok, hok, hk1, hnd, Bool.and_true, Bool.or_false, Bool.true_or, Bool.not_true, Bool.not_false]), hq.2.2.2.2⟩⟩
              case measure => simp [intOf]; omega
            · go_wp2_with fail
              refine wp_region_over (S := ColVal w b1 (o1 + k * 7) b2 (o2 + k * 3) c v) (by kernel_rfl) (by kernel_rfl) (colval_drew hT) ?_
              repeat (go_big_quiet_step (exact over_call (hcon _) (fun _ h => colval_next (Over.ok _) h)))
              refine wpQuiet_nil ?_
              rintro wq ⟨p, hp⟩
              have hq := p.ok
              rw [← hp] at hq
              clear hp p f0 f1 inh
              go_wp2_with fail
              go_ret
              exact ⟨ret_bool (row_bad L V k c v hC.out.1 hC.out.2 (by simp only [oneOk, AVal.ok, hok, hk1, hnd, Bool.and_false, Bool.or_false, Bool.true_or, Bool.not_true])).symm, hq.2.2.2.2⟩
          · have hk1 : (v.k == 0) = false := beq_eq_false_iff_ne.2 hk0
            have hk2 : (v.k != 0) = true := by simp [bne, hk1]
            clear hk0
            by_cases hkd : v.k = c.kd
            · have hk3 : (v.k != c.kd) = false := by rw [hkd]; simp
              have hk4 : (v.k == c.kd) = true := by rw [hkd]; simp
              clear hkd
              cases hnd : c.nd
              · go_wp2_with fail
                refine wp_region_over (S := ColVal w b1 (o1 + k * 7) b2 (o2 + k * 3) c v) (by kernel_rfl) (by kernel_rfl) (colval_drew hT) ?_
                repeat (go_big_quiet_step (exact over_call (hcon _) (fun _ h => colval_next (Over.ok _) h)))
                refine wpQuiet_nil ?_
                rintro wq ⟨p, hp⟩
                have hq := p.ok
                rw [← hp] at hq
                clear hp p f0 f1 inh
                go_wp2_with fail
                go_roundw
                case rel => exact ⟨k + 1, by omega, by go_num, ⟨rowTo_next L V k c v hC.out.1 hC.out.2 hH.out.1 (by simp only [oneOk, AVal.ok, hok, hk1, hk4, hnd, Bool.and_true, Bool.or_true, Bool.not_false]), hq.2.2.2.2⟩⟩
                case measure => simp [intOf]; omega
              · go_wp2_with fail
                refine wp_region_over (S := ColVal w b1 (o1 + k * 7) b2 (o2 + k * 3) c v) (by kernel_rfl) (by kernel_rfl) (colval_drew hT) ?_
                repeat (go_big_quiet_step (exact over_call (hcon _) (fun _ h => colval_next (Over.ok _) h)))
                refine wpQuiet_nil ?_
                rintro wq ⟨p, hp⟩
                have hq := p.ok
                rw [← hp] at hq
                clear hp p f0 f1 inh
                go_wp2_with fail
                go_roundw
                case rel => exact ⟨k + 1, by omega, by go_num, ⟨rowTo_next L V k c v hC.out.1 hC.out.2 hH.out.1 (by simp only [oneOk, AVal.ok, hok, hk1, hk4, hnd, Bool.and_true, Bool.or_true, Bool.not_true, Bool.not_false]), hq.2.2.2.2⟩⟩
                case measure => simp [intOf]; omega
            · have hk3 : (v.k != c.kd) = true := by simp [bne, beq_eq_false_iff_ne.2 hkd]
              have hk4 : (v.k == c.kd) = false := beq_eq_false_iff_ne.2 hkd
              clear hkd
              go_wp2_with fail
              refine wp_region_over (S := ColVal w b1 (o1 + k * 7) b2 (o2 + k * 3) c v) (by kernel_rfl) (by kernel_rfl) (colval_drew hT) ?_
              repeat (go_big_quiet_step (exact over_call (hcon _) (fun _ h => colval_next (Over.ok _) h)))
              refine wpQuiet_nil ?_
              rintro wq ⟨p, hp⟩
              have hq := p.ok
              rw [← hp] at hq
              clear hp p f0 f1 inh
              go_wp2_with fail
              go_ret
              exact ⟨ret_bool (row_bad L V k c v hC.out.1 hC.out.2 (by simp only [oneOk, AVal.ok, hok, hk1, hk4, Bool.and_true, Bool.and_false, Bool.or_true, Bool.or_false, Bool.not_false])).symm, hq.2.2.2.2⟩
      · have hkl : k = L.length := by omega
        subst hkl
        go_wp2_with fail
        go_ret
        refine ⟨ret_bool ?_, hH.out.2⟩
        simp [rowOk, hs, hE.out, hH.out.1]
  · go_enter Try.func6, Try.ntmps6
    go_wp2_with (go_at_call 15; refine (spec_shape _ _ _ _ ha hf hm).mono ?_; rintro e w' ⟨rfl, hq⟩)
    all_goals
      first
        | (exfalso; omega)
        | (go_ret
           refine ⟨ret_bool ?_, ‹Below w.heap.size w _›⟩
           simp [rowOk, hlen])

end Go.Proofs.Ytddcmibggdighaa
