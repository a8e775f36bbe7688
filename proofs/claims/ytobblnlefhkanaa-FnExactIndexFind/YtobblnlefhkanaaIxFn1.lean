/- The contract of spec.IndexFind, over the seat's translation. -/
import Derived.Test.YtobblnlefhkanaaIxFn0
import Derived.Test.YtobblnlefhkanaaIxU2
import Derived.Test.YtobblnlefhkanaaIxO1
namespace Go.Proofs.Ytobblnlefhkanaa
open Go.RowKit

/-- What is carried through the loop. -/
structure FdS (w : World) (a : Option Addr) (L : List AEnt) (x : AEnt) (v : Value) (M : List Int) (W : World) : Prop where
  far : FarE (w.heap.size + 1) a L W
  bx : Box w.heap.size [.int .i64 x.k, .int .i64 x.n, .string x.s] W
  own : OwnI (w.heap.size + 1) v M W
  le : w.heap.size + 1 ≤ W.heap.size
  bel : Below w.heap.size w W

theorem FdS.next {w : World} {a : Option Addr} {L : List AEnt} {x : AEnt} {v : Value} {M : List Int} {W W' : World} (h : FdS w a L x v M W) (hb : Below W.heap.size W W') : FdS w a L x v M W' :=
  ⟨h.far.next (hb.mono h.le), h.bx.next hb, h.own.next hb, Nat.le_trans h.le hb.size, h.bel.trans (hb.mono (by have := h.le; omega))⟩

theorem FdS.turn {w : World} {a : Option Addr} {L : List AEnt} {x : AEnt} {v v' : Value} {M M' : List Int} {W W' : World} (h : FdS w a L x v M W) (hb : Below (w.heap.size + 1) W W') (ho : OwnI (w.heap.size + 1) v' M' W') : FdS w a L x v' M' W' :=
  ⟨h.far.next hb, ⟨fun j u hu => by rw [hb.cell (p := ⟨w.heap.size, _, none⟩) (by simp)]; exact h.bx.1 j u hu, Nat.lt_of_lt_of_le h.bx.2 hb.size⟩, ho, Nat.le_trans h.le hb.size, h.bel.trans (hb.mono (by omega))⟩

set_option maxRecDepth 100000 in
set_option maxHeartbeats 4000000 in
theorem spec_find (a : Option Addr) (cap : Nat) (L : List AEnt) (x : AEnt) (w : World) (hL : EntsAt w a L) (hf : ∀ c ∈ L, c.fit) (hm : L.length ≤ 1048576) :
    Calls Try.prog 31 #[.slice a L.length cap, .agg #[.int .i64 x.k, .int .i64 x.n, .string x.s]] w
      fun e w' => ∃ v, e = .returned v ∧ OwnI w.heap.size v (spanL x x L) w' ∧ Below w.heap.size w w' := by
  have hm' : L.length ≤ maxLen := by unfold maxLen; omega
  have I0 : Hid (FdS w a L x (.slice (some ⟨w.heap.size + 1, 0, none⟩) 0 0) [] ((w.alloc (.cells #[.int .i64 x.k, .int .i64 x.n, .string x.s] 36)).alloc (.cells #[] 3))) := by
    have b1 : Below w.heap.size w (w.alloc (.cells #[.int .i64 x.k, .int .i64 x.n, .string x.s] 36)) := (Below.refl _ _).alloc (Nat.le_refl _) _
    have b2 : Below (w.alloc (.cells #[.int .i64 x.k, .int .i64 x.n, .string x.s] 36)).heap.size (w.alloc (.cells #[.int .i64 x.k, .int .i64 x.n, .string x.s] 36)) ((w.alloc (.cells #[.int .i64 x.k, .int .i64 x.n, .string x.s] 36)).alloc (.cells #[] 3)) := (Below.refl _ _).alloc (Nat.le_refl _) _
    have x1 := (Box.start w [.int .i64 x.k, .int .i64 x.n, .string x.s] 36).next b2
    have x3 := OwnI.made (w.heap.size + 1) (w.alloc (.cells #[.int .i64 x.k, .int .i64 x.n, .string x.s] 36)) (by simp)
    rw [size_alloc] at x3
    have hb := b1.trans (b2.mono (by simp))
    exact ⟨((FarE.of hL).next hb).mono (by omega), x1, x3, by simp, hb⟩
  clear hL
  go_enter Try.func31, Try.ntmps31
  go_wp2_with fail
  go_loopw [5, 6] (fun v i wr => ∃ (k : Nat) (ao : Option Addr) (no co : Nat), k ≤ L.length ∧ v = .slice ao no co ∧ i = .int .i64 k ∧ Hid (FdS w a L x (.slice ao no co) (spanK x x L k) wr)) (fun _ i _ => L.length - (intOf i).toNat)
  case atStart => exact ⟨0, _, _, _, Nat.zero_le _, rfl, rfl, by
    have : spanK x x L 0 = [] := by unfold spanK spanIn; split <;> simp
    rw [this]
    exact I0.out⟩
  case round =>
    obtain ⟨k, ao, no, co, hk, rfl, rfl, hH⟩ := hrel
    clear I0
    by_cases hlt : k < L.length
    · have hE := hH.out.far.ents hH.out.le
      go_wp2_with fail
      refine (spec_index a cap L _ hE hf hm').mono ?_
      rintro e w1 ⟨rfl, hb⟩
      have h1 : Hid (FdS w a L x (.slice ao no co) (spanK x x L k) w1) := hH.out.next hb
      clear hE hb hH
      cases hI : indexOk L
      · go_wp2_with fail
        go_ret
        exact ⟨_, rfl, (by
          have h := h1.out.own.mono (Nat.le_add_right w.heap.size 1)
          unfold spanK at h
          unfold spanL
          rw [hI] at h ⊢
          exact h), h1.out.bel⟩
      · obtain ⟨b, o, hab, hbl, hr⟩ := (h1.out.far.ents h1.out.le).at hlt
        have hcx := List.getElem?_eq_getElem hlt
        revert hr hcx
        generalize L[k] = c
        intro hr hcx
        have hix : ∀ wx, (Instr.indexAt 25 (.slice a L.length cap) (.int .i64 k)).run Try.prog wx = .ok (.pointer (some ⟨b, o + k * 4, none⟩)) wx := fun wx => by
          rw [hab]; exact run_ix4 _ _ _ _ _ _ _ wx hlt Try.underlying25 (Try.sizeOf38 wx)
        have hC : Hid (L[k]? = some c ∧ indexOk L = true) := ⟨hcx, hI⟩
        have hT1 := cells4_of hr
        have hT2 := h1.out.bx.three
        have hB : Hid (b < w1.heap.size) := hbl
        have hq := eql_val c x
        clear hab hr hcx hbl hI
        cases hs : eqV c x
        · have hN : Hid (inSpan x x c = false) := by show inSpan x x c = false; rw [inSpan_self, hs]
          go_wp2_with fail
          go_quiet (fail)
          have hP : Hid (FdS w a L x (.slice ao no co) (spanK x x L k) (w1.drewN nq)) := h1.out.next (quiet_below _ _ _)
          clear hT1 hT2 hq h1
          go_wp2_with fail
          go_roundw
          case rel => exact ⟨k + 1, _, _, _, by omega, rfl, by go_num, by
            rw [spanK_next hC.out.2 hC.out.1, hN.out, if_neg (by decide), List.append_nil]
            exact hP.out⟩
          case measure => simp [intOf]; omega
        · have hN : Hid (inSpan x x c = true) := by show inSpan x x c = true; rw [inSpan_self, hs]
          go_wp2_with fail
          go_quiet (fail)
          have hq' : FdS w a L x (.slice ao no co) (spanK x x L k) (w1.drewN nq) := h1.out.next (quiet_below _ _ _)
          have c4 : Cells4 (w1.drewN nq) b (o + k * 4) c := cells4_next hT1 hB.out (quiet_below _ _ _)
          obtain ⟨wq, hwq⟩ : ∃ wq, wq = w1.drewN nq := ⟨_, rfl⟩
          rw [← hwq] at hq' c4 ⊢
          clear hT1 hT2 hq h1 hwq hB
          obtain ⟨i0, hi0, hz, hsz, hby⟩ := Try.infoI
          have hql := spanK_len x x L k
          have hby6 : ((spanK x x L k).length + 1) * i0.bytes ≤ 140737488355328 := by
            have : ((spanK x x L k).length + 1) * i0.bytes ≤ 2097152 * 128 := Nat.mul_le_mul (by omega) hby
            omega
          have hown0 : wq.ownsRow (w.heap.size + 1) 3 1 (.slice ao no co) (spanK x x L k).length ((spanK x x L k).map (Value.int .i64)) := hq'.own
          have hown : (wq.alloc (.cells #[.int .i64 c.id] 3)).ownsRow (w.heap.size + 1) 3 1 (.slice ao no co) (spanK x x L k).length ((spanK x x L k).map (Value.int .i64)) := hown0.alloc _
          have hnews := new_int wq c.id
          have hle := hq'.le
          go_wp2_with (at_builtin; refine wpList_append_own_at _ rfl _ _ 43 rfl (w.heap.size + 1) 3 i0 _ 1 i0.bytes Try.underlying43 hi0 hz hsz rfl rfl (by decide) _ (spanK x x L k).length ((spanK x x L k).map (Value.int .i64)) rfl hown ⟨wq.heap.size, 0, none⟩ 1 1 [.int .i64 c.id] rfl rfl hnews (by simp [Value.oneCell']) (by unfold maxLen; omega) hby6 (by simp; omega) ?_; intro v' w7 hown7 hgrow hnil hloc)
          have hb7 : Below (w.heap.size + 1) wq w7 := ((Below.refl _ _).alloc hle _).grown hgrow (by simp; omega) (fun j hj => (World.ownsRow.lt hown j hj).1)
          have h7 : OwnI (w.heap.size + 1) v' (spanK x x L (k + 1)) w7 := by
            rw [spanK_next hC.out.2 hC.out.1, hN.out, if_pos rfl]
            unfold OwnI
            rw [List.length_append, List.map_append]
            exact hown7
          obtain ⟨a7, c7, hV, -⟩ := h7.slice
          subst hV
          have HF : Hid (FdS w a L x (.slice a7 (spanK x x L (k + 1)).length c7) (spanK x x L (k + 1)) w7) := hq'.turn hb7 h7
          clear hb7 h7 hown7 hgrow hnil hloc hown hown0 hnews hz hsz hby hby6 hq' c4 hi0
          go_wp2_with fail
          go_roundw
          case rel => exact ⟨k + 1, _, _, _, by omega, rfl, by go_num, HF⟩
          case measure => simp [intOf]; omega
    · have hkl : k = L.length := by omega
      subst hkl
      go_wp2_with fail
      go_ret
      exact ⟨_, rfl, by rw [← spanK_all]; exact hH.out.own.mono (Nat.le_add_right w.heap.size 1), hH.out.bel⟩

end Go.Proofs.Ytobblnlefhkanaa
