/- The contract of spec.IndexFind, over the seat's translation. -/
import Derived.Test.YtobblnlefhkanaaG16
import Derived.Test.YtobblnlefhkanaaG02
import Derived.Test.YtobblnlefhkanaaG04
import Derived.Test.YtobblnlefhkanaaG03
import Derived.Test.YtobblnlefhkanaaG10
import Derived.ProofKit
import Derived.OpenShut
import Derived.ShutString
import Derived.ChangeOld
import Derived.Lib.SmallJoins
import Derived.Deep.Slices
import Derived.Below
namespace Go.Proofs.Ytobblnlefhkanaa
open Go.RowKit

/-- What is carried through the loop. -/
structure FdS (w : World) (a : Option Addr) (L : List AEnt) (x : AEnt) (v : Value) (M : List Int) (W : World) : Prop where
  far : FarE (w.heap.size + 1) a L W
  bx : Box w.heap.size [.int .i64 x.k, .int .i64 x.n, .string x.s] W
  own : OwnI (w.heap.size + 1) v M W
  le : w.heap.size + 1 ≤ W.heap.size
  bel : Below w.heap.size w W

theorem FdS.next {w : World} {a : Option Addr} {L : List AEnt} {x : AEnt} {v : Value} {M : List Int} {W W' : World} (h : FdS w a L x v M W) (hb : Below W.heap.size W W') : FdS w a L x v M W' :=
  ⟨h.far.next (hb.mono h.le), h.bx.next hb, h.own.next hb, Nat.le_trans h.le hb.size, h.bel.trans (hb.mono (by have := h.le; omega))⟩

theorem FdS.turn {w : World} {a : Option Addr} {L : List AEnt} {x : AEnt} {v v' : Value} {M M' : List Int} {W W' : World} (h : FdS w a L x v M W) (hb : Below (w.heap.size + 1) W W') (ho : OwnI (w.heap.size + 1) v' M' W') : FdS w a L x v' M' W' :=
  ⟨h.far.next hb, ⟨fun j u hu => by rw [hb.cell (p := ⟨w.heap.size, _, none⟩) (by simp)]; exact h.bx.1 j u hu, Nat.lt_of_lt_of_le h.bx.2 hb.size⟩, ho, Nat.le_trans h.le hb.size, h.bel.trans (hb.mono (by omega))⟩

set_option maxRecDepth 100000 in
set_option maxHeartbeats 4000000 in
theorem spec_find (a : Option Addr) (cap : Nat) (L : List AEnt) (x : AEnt) (w : World) (hL : EntsAt w a L) (hf : ∀ c ∈ L, c.fit) (hm : L.length ≤ 1048576) :
    Calls Try.prog 31 #[.slice a L.length cap, .agg #[.int .i64 x.k, .int .i64 x.n, .string x.s]] w
      fun e w' => ∃ v, e = .returned v ∧ OwnI w.heap.size v (spanL x x L) w' ∧ Below w.heap.size w w' := by
  have hm' : L.length ≤ maxLen := by unfold maxLen; omega
  have I0 : Hid (FdS w a L x (.slice (some ⟨w.heap.size + 1, 0, none⟩) 0 0) [] ((w.alloc (.cells #[.int .i64 x.k, .int .i64 x.n, .string x.s] 36)).alloc (.cells #[] 3))) := by
    have b1 : Below w.heap.size w (w.alloc (.cells #[.int .i64 x.k, .int .i64 x.n, .string x.s] 36)) := (Below.refl _ _).alloc (Nat.le_refl _) _
    have b2 : Below (w.alloc (.cells #[.int .i64 x.k, .int .i64 x.n, .string x.s] 36)).heap.size (w.alloc (.cells #[.int .i64 x.k, .int .i64 x.n, .string x.s] 36)) ((w.alloc (.cells #[.int .i64 x.k, .int .i64 x.n, .string x.s] 36)).alloc (.cells #[] 3)) := (Below.refl _ _).alloc (Nat.le_refl _) _
    have x1 := (Box.start w [.int .i64 x.k, .int .i64 x.n, .string x.s] 36).next b2
    have x3 := OwnI.made (w.heap.size + 1) (w.alloc (.cells #[.int .i64 x.k, .int .i64 x.n, .string x.s] 36)) (by simp)
    rw [size_alloc] at x3
    have hb := b1.trans (b2.mono (by simp))
    exact ⟨((FarE.of hL).next hb).mono (by omega), x1, x3, by simp, hb⟩
  clear hL
  go_enter Try.func31, Try.ntmps31
  go_wp2_with fail
  go_loopw [5, 6] (fun v i wr => ∃ (k : Nat) (ao : Option Addr) (no co : Nat), k ≤ L.length ∧ v = .slice ao no co ∧ i = .int .i64 k ∧ Hid (FdS w a L x (.slice ao no co) (spanK x x L k) wr)) (fun _ i _ => L.length - (intOf i).toNat)
  case atStart => exact ⟨0, _, _, _, Nat.zero_le _, rfl, rfl, by
    have : spanK x x L 0 = [] := by unfold spanK spanIn; split <;> simp
    rw [this]
    exact I0.out⟩
  case round =>
    obtain ⟨k, ao, no, co, hk, rfl, rfl, hH⟩ := hrel
    clear I0
    by_cases hlt : k < L.length
    · have hE := hH.out.far.ents hH.out.le
      go_wp2_with fail
      refine (spec_index a cap L _ hE hf hm').mono ?_
      rintro e w1 ⟨rfl, hb⟩
      have h1 : Hid (FdS w a L x (.slice ao no co) (spanK x x L k) w1) := hH.out.next hb
      clear hE hb hH
      cases hI : indexOk L
      · go_wp2_with fail
        go_ret
        exact ⟨_, rfl, (by
          have h := h1.out.own.mono (Nat.le_add_right w.heap.size 1)
          unfold spanK at h
          unfold spanL
          rw [hI] at h ⊢
          exact h), h1.out.bel⟩
      · obtain ⟨b, o, hab, hbl, hr⟩ := (h1.out.far.ents h1.out.le).at hlt
        have hcx := List.getElem?_eq_getElem hlt
        revert hr hcx
        generalize L[k] = c
        intro hr hcx
        have hix : ∀ wx, (Instr.indexAt 25 (.slice a L.length cap) (.int .i64 k)).run Try.prog wx = .ok (.pointer (some ⟨b, o + k * 4, none⟩)) wx := fun wx => by
          rw [hab]; exact run_ix4 _ _ _ _ _ _ _ wx hlt Try.underlying25 (Try.sizeOf38 wx)
        have hC : Hid (L[k]? = some c ∧ indexOk L = true) := ⟨hcx, hI⟩
        have hT1 := cells4_of hr
        have hT2 := h1.out.bx.three
        have hB : Hid (b < w1.heap.size) := hbl
        have hq := eql_val c x
        clear hab hr hcx hbl hI
        cases hs : eqV c x
        · have hN : Hid (inSpan x x c = false) := by show inSpan x x c = false; rw [inSpan_self, hs]
          go_wp2_with fail
          go_quiet (fail)
          have hP : Hid (FdS w a L x (.slice ao no co) (spanK x x L k) (w1.drewN nq)) := h1.out.next (quiet_below _ _ _)
          clear hT1 hT2 hq h1
          go_wp2_with fail
          go_roundw
          case rel => exact ⟨k + 1, _, _, _, by omega, rfl, by go_num, by
            rw [spanK_next hC.out.2 hC.out.1, hN.out, if_neg (by decide), List.append_nil]
            exact hP.out⟩
          case measure => simp [intOf]; omega
        · have hN : Hid (inSpan x x c = true) := by show inSpan x x c = true; rw [inSpan_self, hs]
          go_wp2_with fail
          go_quiet (fail)
          have hq' : FdS w a L x (.slice ao no co) (spanK x x L k) (w1.drewN nq) := h1.out.next (quiet_below _ _ _)
          have c4 : Cells4 (w1.drewN nq) b (o + k * 4) c := cells4_next hT1 hB.out (quiet_below _ _ _)
          obtain ⟨wq, hwq⟩ : ∃ wq, wq = w1.drewN nq := ⟨_, rfl⟩
          rw [← hwq] at hq' c4 ⊢
          clear hT1 hT2 hq h1 hwq hB
          obtain ⟨i0, hi0, hz, hsz, hby⟩ := Try.infoI
          have hql := spanK_len x x L k
          have hby6 : ((spanK x x L k).length + 1) * i0.bytes ≤ 140737488355328 := by
            have : ((spanK x x L k).length + 1) * i0.bytes ≤ 2097152 * 128 := Nat.mul_le_mul (by omega) hby
            omega
          have hown0 : wq.ownsRow (w.heap.size + 1) 3 1 (.slice ao no co) (spanK x x L k).length ((spanK x x L k).map (Value.int .i64)) := hq'.own
          have hown : (wq.alloc (.cells #[.int .i64 c.id] 3)).ownsRow (w.heap.size + 1) 3 1 (.slice ao no co) (spanK x x L k).length ((spanK x x L k).map (Value.int .i64)) := hown0.alloc _
          have hnews := new_int wq c.id
          have hle := hq'.le
          go_wp2_with (at_builtin; refine wpList_append_own_at _ rfl _ _ 43 rfl (w.heap.size + 1) 3 i0 _ 1 i0.bytes Try.underlying43 hi0 hz hsz rfl rfl (by decide) _ (spanK x x L k).length ((spanK x x L k).map (Value.int .i64)) rfl hown ⟨wq.heap.size, 0, none⟩ 1 1 [.int .i64 c.id] rfl rfl hnews (by simp [Value.oneCell']) (by unfold maxLen; omega) hby6 (by simp; omega) ?_; intro v' w7 hown7 hgrow hnil hloc)
          have hb7 : Below (w.heap.size + 1) wq w7 := ((Below.refl _ _).alloc hle _).grown hgrow (by simp; omega) (fun j hj => (World.ownsRow.lt hown j hj).1)
          have h7 : OwnI (w.heap.size + 1) v' (spanK x x L (k + 1)) w7 := by
            rw [spanK_next hC.out.2 hC.out.1, hN.out, if_pos rfl]
            unfold OwnI
            rw [List.length_append, List.map_append]
            exact hown7
          obtain ⟨a7, c7, hV, -⟩ := h7.slice
          subst hV
          have HF : Hid (FdS w a L x (.slice a7 (spanK x x L (k + 1)).length c7) (spanK x x L (k + 1)) w7) := hq'.turn hb7 h7
          clear hb7 h7 hown7 hgrow hnil hloc hown hown0 hnews hz hsz hby hby6 hq' c4 hi0
          go_wp2_with fail
          go_roundw
          case rel => exact ⟨k + 1, _, _, _, by omega, rfl, by go_num, HF⟩
          case measure => simp [intOf]; omega
    · have hkl : k = L.length := by omega
      subst hkl
      go_wp2_with fail
      go_ret
      exact ⟨_, rfl, by rw [← spanK_all]; exact hH.out.own.mono (Nat.le_add_right w.heap.size 1), hH.out.bel⟩

end Go.Proofs.Ytobblnlefhkanaa

/- The contracts of laws.szVal, szEntry and szEntryS, over the seat's translation. -/
namespace Go.Proofs.Ytobblnlefhkanaa
open Go.RowKit

theorem sz_val (k n : Int) (s : ByteArray) (l : Int) (w : World) (hs : s.size ≤ maxLen) (h0 : 0 ≤ l) (h1 : l ≤ 1048576) :
    Calls Try.prog 24 #[.agg #[.int .i64 k, .int .i64 n, .string s], .int .i64 l] w fun e w' => ∃ z, e = .returned (.int .i64 z) ∧ Rest l z True ∧ Below w.heap.size w w' := by
  by_cases h : (s.size : Int) ≤ l
  · exact (sz_fits k n l s w hs h0 h1 h).mono fun _ _ ⟨he, hb⟩ => ⟨_, he, Or.inr ⟨by omega, by omega, trivial⟩, hb⟩
  · exact (sz_big k n l s w hs h0 h1 (by omega)).mono fun _ _ ⟨he, hb⟩ => ⟨_, he, Or.inl rfl, hb⟩

set_option maxRecDepth 100000 in
set_option maxHeartbeats 1000000 in
theorem sz_entry (x : AEnt) (l : Int) (w : World) (hf : x.fit) (h0 : 0 ≤ l) (h1 : l ≤ 1048576) :
    Calls Try.prog 16 #[.agg #[.int .i64 x.k, .int .i64 x.n, .string x.s, .int .i64 x.id], .int .i64 l] w fun e w' => ∃ z, e = .returned (.int .i64 z) ∧ Rest l z True ∧ Below w.heap.size w w' := by
  go_enter Try.func16, Try.ntmps16
  go_wp2_with fail
  refine (sz_val _ _ _ _ _ hf h0 h1).mono ?_
  rintro e w' ⟨z, rfl, hR, hq⟩
  have hB : Hid (Below w.heap.size w w') := ((Below.refl _ _).alloc (Nat.le_refl _) _).trans (hq.mono (by simp))
  clear hq
  rcases hR with rfl | ⟨hz, hzl, _⟩
  · go_wp2_with fail
    go_ret
    exact ⟨_, rfl, Or.inl rfl, hB.out⟩
  · go_wp2_with fail
    go_ret
    exact ⟨_, rfl, Or.inr ⟨hz, by omega, trivial⟩, hB.out⟩

set_option maxRecDepth 100000 in
set_option maxHeartbeats 1000000 in
theorem sz_entries (a : Option Addr) (cap : Nat) (L : List AEnt) (l : Int) (w : World) (hL : EntsAt w a L) (hf : ∀ c ∈ L, c.fit) (hm : L.length ≤ maxLen) (h0 : 0 ≤ l) (h1 : l ≤ 1048576) :
    Calls Try.prog 9 #[.slice a L.length cap, .int .i64 l] w fun e w' => ∃ z, e = .returned (.int .i64 z) ∧ Rest l z (L.length ≤ 1048576) ∧ Below w.heap.size w w' := by
  unfold maxLen at hm
  by_cases ha : (L.length : Int) ≤ l
  · go_enter Try.func9, Try.ntmps9
    go_wp2_with fail
    go_loopw [1, 5] (fun lf i wr => ∃ (k : Nat) (z : Int), k ≤ L.length ∧ i = .int .i64 k ∧ lf = .int .i64 z ∧ 0 ≤ z ∧ z ≤ l ∧ Hid (Below w.heap.size w wr)) (fun _ i _ => L.length - (intOf i).toNat)
    case atStart => exact ⟨0, _, Nat.zero_le _, rfl, rfl, by omega, by omega, Below.refl _ _⟩
    case round =>
      obtain ⟨k, z, hk, rfl, rfl, hz0, hzl, hH⟩ := hrel
      by_cases hlt : k < L.length
      · obtain ⟨b, o, hab, hbl, hr⟩ := (hL.keep hH.out).at hlt
        have hft := hf _ (List.getElem_mem hlt)
        revert hr hft
        generalize L[k] = c
        intro hr hft
        have hix : ∀ wx, (Instr.indexAt 22 (.slice a L.length cap) (.int .i64 k)).run Try.prog wx = .ok (.pointer (some ⟨b, o + k * 4, none⟩)) wx := fun wx => by
          rw [hab]; exact run_ix4 _ _ _ _ _ _ _ wx hlt Try.underlying22 (Try.sizeOf32 wx)
        have hld := cells4_of hr
        clear hab hr hL
        go_wp2_with fail
        refine (sz_entry c z _ hft hz0 (by omega)).mono ?_
        rintro e w' ⟨z2, rfl, hR, hq⟩
        have hP : Hid (Below w.heap.size w w') := hH.out.trans (hq.mono hH.out.size)
        clear hq hH hld
        rcases hR with rfl | ⟨hy, hyl, _⟩
        · go_wp2_with fail
          go_ret
          exact ⟨_, rfl, Or.inl rfl, hP.out⟩
        · go_wp2_with fail
          go_roundw
          case rel => exact ⟨k + 1, z2, by omega, by go_num, rfl, hy, by omega, hP⟩
          case measure => simp [intOf]; omega
      · have hkl : k = L.length := by omega
        subst hkl
        go_wp2_with fail
        go_ret
        exact ⟨_, rfl, Or.inr ⟨hz0, hzl, by omega⟩, hH.out⟩
  · go_enter Try.func9, Try.ntmps9
    go_wp2_with fail
    go_ret
    exact ⟨_, rfl, Or.inl rfl, Below.refl _ _⟩

end Go.Proofs.Ytobblnlefhkanaa

/- The walk of laws.FnExactIndexFind, over the seat's translation. -/
namespace Go.Proofs.Ytobblnlefhkanaa
open Go.RowKit

set_option maxRecDepth 100000 in
set_option maxHeartbeats 4000000 in
theorem law_find (a : Option Addr) (cap : Nat) (L : List AEnt) (lo : AEnt) (w : World) (hL : EntsAt w a L) (hf : ∀ c ∈ L, c.fit) (hm : L.length ≤ maxLen) (hlo : lo.fit) :
    Calls Try.prog 8 #[.slice a L.length cap, .agg #[.int .i64 lo.k, .int .i64 lo.n, .string lo.s]] w fun e w' => e = .returned (.bool true) ∧ Below w.heap.size w w' := by
  have I0 := InF.start lo hL 30
  obtain ⟨N, hN⟩ : ∃ N, N = spanL lo lo L := ⟨_, rfl⟩
  have hspec : ∀ (g : Nat) (w : World), L.length ≤ 1048576 → EntsAt w (some ⟨g, 0, none⟩) L → Calls Try.prog 31 #[.slice (some ⟨g, 0, none⟩) L.length L.length, .agg #[.int .i64 lo.k, .int .i64 lo.n, .string lo.s]] w
      fun e w' => ∃ aw cw, e = .returned (.slice aw N.length cw) ∧ IntsAt w' aw N ∧ Below w.heap.size w w' := fun g w h20 hE => by
    rw [hN]
    exact (spec_find _ _ L lo w hE hf h20).mono fun e w' ⟨v, he, hv, hb⟩ => by
      obtain ⟨a, c, h1, h2⟩ := hv.slice
      exact ⟨a, c, by rw [he, h1], h2, hb⟩
  have himpl : ∀ (g : Nat) (w : World), L.length ≤ 1048576 → EntsAt w (some ⟨g, 0, none⟩) L → Calls Try.prog 32 #[.slice (some ⟨g, 0, none⟩) L.length L.length, .agg #[.int .i64 lo.k, .int .i64 lo.n, .string lo.s]] w
      fun e w' => ∃ ag cg, e = .returned (.slice ag N.length cg) ∧ OwnI w.heap.size (.slice ag N.length cg) N w' ∧ Below w.heap.size w w' := fun g w h20 hE => by
    rw [hN]
    exact (impl_find _ _ L lo w hE (fun h => by cases h) hf h20).mono fun e w' ⟨v, he, hv, hb⟩ => by
      obtain ⟨a, c, h1, h2⟩ := hv.slice
      exact ⟨a, c, by rw [he, h1], by rw [← h1]; exact hv, hb⟩
  have hNl : N.length ≤ 16 := by
    rw [hN]
    unfold spanL
    cases hI : indexOk L
    · simp
    · have h1 := spanIn_len lo lo L
      simp only [indexOk, Bool.and_eq_true, decide_eq_true_eq] at hI
      rw [if_pos rfl]
      omega
  clear hN
  clear hL
  go_enter Try.func8, Try.ntmps8
  go_wp2_with fail
  refine (sz_entries _ _ _ _ _ I0.ents hf hm (by omega) (by omega)).mono ?_
  rintro e w1 ⟨z, rfl, hR, hb⟩
  have I1 : Hid (InF w (w.heap.size + 1) a L lo w1) := I0.later hb
  clear I0 hb
  rcases hR with rfl | ⟨hz, hzl, h20⟩
  · go_wp2_with fail
    go_ret
    exact ⟨rfl, I1.out.bel⟩
  have H20 : Hid (L.length ≤ 1048576) := h20
  have c1 := I1.out.cells
  clear h20
  go_wp2_with fail
  refine (sz_val lo.k lo.n lo.s z _ hlo hz hzl).mono ?_
  rintro e w2 ⟨z2, rfl, hR, hb⟩
  have I2 : Hid (InF w (w.heap.size + 1) a L lo w2) := I1.out.later hb
  clear I1 hb c1
  rcases hR with rfl | ⟨hz2, hzl2, -⟩
  · go_wp2_with fail
    go_ret
    exact ⟨rfl, I2.out.bel⟩
  have J3 := I2.out.c
  have h20 : L.length ≤ 1048576 := H20.out
  clear I2
  go_wp2_with fail
  go_region_held3 (fun W => InFC w (w.heap.size + 1) a L lo W) (first | assumption | exact inf_drew (by assumption))
    (first
      | (go_at_call 11; have hS := ‹InFC w (w.heap.size + 1) a L lo _›; refine (to_entries _ _ _ _ hS.1.ents h20).mono ?_; rintro e wA' ⟨rfl, hN⟩; have hC := inf_later hS hN.1; have hRA := hN.ents; clear hN hS)
      | (go_at_call 26; have hS := ‹InFC w (w.heap.size + 1) a L lo _›; refine (to_val _ _ _ _).mono ?_; rintro e wB' ⟨rfl, hq⟩; have hC2 := inf_later hS hq; have hRA2 := hRA.keep hq; clear hq hS hRA)
      | (go_at_call 31; have hS := ‹InFC w (w.heap.size + 1) a L lo _›; refine (hspec _ _ h20 hRA2).mono ?_; rintro e wZ ⟨aZ, cZ, rfl, hEZ, hq⟩; have hC4 := inf_later hS hq; clear hq hS hRA2))
  obtain ⟨p, hp⟩ : ∃ p, p = wZ.heap.size := ⟨_, rfl⟩
  obtain ⟨aw, haw⟩ : ∃ aw, aw = aZ := ⟨_, rfl⟩
  have S3 : Hid (SpF w p a L lo aw N wZ) := by rw [hp, haw]; exact ⟨hC4.1.up, FarI.of hEZ⟩
  rw [← haw]
  rename_i hHeld
  clear hHeld hC hC2 hC4 hEZ J3 haw
  go_wp2_with fail
  refine (to_entries _ _ _ _ S3.out.inv.ents h20).mono ?_
  rintro e w4 ⟨rfl, hM⟩
  rw [← hp] at hM ⊢
  have S4 := S3.out.next hM.1
  have X4 : XF w p a L lo aw N w4 := ⟨⟨S4, hM.2.1, hM.ents, hM.2.2.1⟩, S4.inv.cells⟩
  clear hM S4 S3 hp
  have x4 := X4.2
  go_wp2_with fail
  refine (to_val _ _ _ _).mono ?_
  rintro e w5 ⟨rfl, hb⟩
  have X5 := xf_later X4 hb
  clear hb
  go_wp2_with fail
  refine (himpl _ _ h20 X5.1.2.2.1).mono ?_
  rintro e w6 ⟨ag, cg, rfl, hRG, hb⟩
  have hD4 := xf_later X5 hb
  have hRG2 : OwnI (p + 1) (.slice ag N.length cg) N w6 := hRG.mono X5.1.2.1
  clear hb hRG X5
  have X6 : Hid (XF w p a L lo aw N w6 ∧ OwnI (p + 1) (.slice ag N.length cg) N w6) := ⟨hD4, hRG2⟩
  clear hRG2 hD4 X4 x4
  have hNm : N.length ≤ maxLen := by unfold maxLen; omega
  go_wp2_with fail
  refine (eq_ints _ _ _ _ N _ X6.out.2.same X6.out.1.1.1.ints hNm).mono ?_
  rintro e w7 ⟨rfl, hb⟩
  have X7 : Hid (XF w p a L lo aw N w7 ∧ OwnI (p + 1) (.slice ag N.length cg) N w7) := ⟨xf_later X6.out.1 hb, X6.out.2.next hb⟩
  clear X6 hb
  go_wp2_with fail
  refine (to_entries _ _ _ _ X7.out.1.1.1.inv.ents h20).mono ?_
  rintro e w8 ⟨rfl, hM⟩
  have X8 : Hid (XF w p a L lo aw N w8 ∧ OwnI (p + 1) (.slice ag N.length cg) N w8) := ⟨xf_later X7.out.1 hM.1, X7.out.2.next hM.1⟩
  have hE8 := hM.ents
  clear X7 hM
  go_wp2_with fail
  refine (eq_entries _ _ _ _ L _ X8.out.1.1.2.2.1 hE8 hm).mono ?_
  rintro e w9 ⟨rfl, hb⟩
  have X9 : Hid (XF w p a L lo aw N w9 ∧ OwnI (p + 1) (.slice ag N.length cg) N w9) := ⟨xf_later X8.out.1 hb, X8.out.2.next hb⟩
  clear X8 hb hE8
  go_wp2_with fail
  refine (mark_entries (some ⟨p, 0, none⟩) p L.length L.length 1 _ (Or.inl rfl) X9.out.1.1.2.1 X9.out.1.1.2.2.2 (by omega) (by omega)).mono ?_
  rintro e wA ⟨rfl, hM⟩
  have XA : Hid (SpF w p a L lo aw N wA ∧ OwnI (p + 1) (.slice ag N.length cg) N wA ∧ p < wA.heap.size) :=
    ⟨X9.out.1.1.1.next (hM.1.below (Nat.le_refl _) X9.out.1.1.1.inv.le), X9.out.2.turn hM.1 (Nat.lt_succ_self _), hM.2.1⟩
  clear X9 hM
  have hk1 : ¬ ((1 + 4 * L.length : Nat) : Int) < 0 := by omega
  go_wp2_with fail
  refine (eq_ints _ _ _ _ N _ XA.out.2.1.same XA.out.1.ints hNm).mono ?_
  rintro e wB ⟨rfl, hb⟩
  have XB : Hid (SpF w p a L lo aw N wB ∧ OwnI (p + 1) (.slice ag N.length cg) N wB ∧ p < wB.heap.size) := ⟨XA.out.1.later hb, XA.out.2.1.next hb, Nat.lt_of_lt_of_le XA.out.2.2 hb.size⟩
  clear XA hb
  obtain ⟨gb, hgb, hgp, hgz, hgt⟩ := (XB.out.2.1.mono (Nat.le_succ p)).block XB.out.2.2 rfl
  go_wp2_with fail
  refine (mark_ints ag gb N.length cg 1 _ hgb hgz hgt (by omega)).mono ?_
  rintro e wD ⟨rfl, hM⟩
  have XD : Hid (YF w p a L lo aw N gb N.length wD) := by
    have h1 := XB.out.1.next (hM.1.below hgp XB.out.1.inv.le)
    exact ⟨⟨h1, hM.2.1, hM.2.2.2⟩, h1.inv.cells⟩
  clear XB hM hgz hgt
  go_wp2_with fail
  refine (held_ints ag gb N.length cg 1 _ hgb XD.out.1.2.1 XD.out.1.2.2 (by omega)).mono ?_
  rintro e wE ⟨rfl, hb⟩
  have XE' : YF w p a L lo aw N gb N.length wE := yf_later XD.out hb
  clear XD hb
  have hk2 : ¬ ((1 + N.length : Nat) : Int) < 0 := by omega
  go_wp2_with fail
  go_region_held3 (fun W => YF w p a L lo aw N gb N.length W) (first | assumption | exact yf_drew (by assumption))
    (first
      | (go_at_call 11; have hS := ‹YF w p a L lo aw N gb N.length _›; refine (to_entries _ _ _ _ hS.1.1.inv.ents h20).mono ?_; rintro e wA' ⟨rfl, hN⟩; have hC := yf_later hS hN.1; have hRA := hN.ents; clear hN hS)
      | (go_at_call 26; have hS := ‹YF w p a L lo aw N gb N.length _›; refine (to_val _ _ _ _).mono ?_; rintro e wB' ⟨rfl, hq⟩; have hC2 := yf_later hS hq; have hRA2 := hRA.keep hq; clear hq hS hRA)
      | (go_at_call 32; have hS := ‹YF w p a L lo aw N gb N.length _›; refine (himpl _ _ h20 hRA2).mono ?_; rintro e wF ⟨ah, ch, rfl, hRH, hq⟩; have hC4 := yf_later hS hq; have hEH := hRH.same; clear hq hS hRA2 hRH))
  have XF : Hid (YF w p a L lo aw N gb N.length wF) := hC4
  rename_i hHeld
  clear hHeld hC hC2 hC4 XE'
  go_wp2_with fail
  refine (eq_ints _ _ _ _ N _ hEH XF.out.1.1.ints hNm).mono ?_
  rintro e wH ⟨rfl, hb⟩
  have XH : Hid (YF w p a L lo aw N gb N.length wH) := yf_later XF.out hb
  clear XF hb hEH
  go_wp2_with fail
  refine (held_ints ag gb N.length cg 1 _ hgb XH.out.1.2.1 XH.out.1.2.2 (by omega)).mono ?_
  rintro e wI ⟨rfl, hb⟩
  have XI : Hid (YF w p a L lo aw N gb N.length wI) := yf_later XH.out hb
  clear XH hb
  go_wp2_with fail
  go_ret
  exact ⟨rfl, XI.out.1.1.inv.bel⟩

end Go.Proofs.Ytobblnlefhkanaa

/- Entries that came in, read. Over the seat's translation. -/
namespace Go.Proofs.Ytobblnlefhkanaa
open Go.ChangeShapes Go.WideShapes Go.ChangeAt Go.RowKit Go.Joins

theorem Try.own : ownKnob Try.prog.godebug = none := by kernel_rfl
theorem Try.laidOut : laidOutB Try.prog = true := by kernel_rfl
theorem Try.cells30 : Try.prog.cellsOf 30 = 3 := by kernel_rfl
theorem Try.cells32 : Try.prog.cellsOf 32 = 4 := by kernel_rfl
theorem Try.cells9 : Try.prog.cellsOf 9 = 1 := by kernel_rfl
theorem Try.cells3 : Try.prog.cellsOf 3 = 1 := by kernel_rfl

theorem list4 {α : Type} {cs : List α} (h : cs.length = 4) : ∃ a b c d, cs = [a, b, c, d] := by
  match cs, h with
  | [a, b, c, d], _ => exact ⟨a, b, c, d, rfl⟩

theorem trod_struct2 {H : Type} {enc : TypeId × Value → H} {P : Program} {w : World} {base : Nat} {spare : Nat → Bool} {held : Bool} {t : TypeId} {f0 f1 : Field} {fuel : Nat} {cs : List Value} {x : DataW H × List MemPlace}
    (ht : P.underlying t = some (.struct #[f0, f1])) (h : DataW.trod enc P w base spare held fuel t cs = some x) :
    ∃ y0 y1 n, cs.length = P.cellsOf t ∧ DataW.trod enc P w base spare held n f0.type ((cs.drop f0.offset).take (P.cellsOf f0.type)) = some y0 ∧
      DataW.trod enc P w base spare held n f1.type ((cs.drop f1.offset).take (P.cellsOf f1.type)) = some y1 := by
  obtain ⟨xs, n, _, rfl, hl, hlen, hf⟩ := DataW.trod_struct ht h
  match xs, hlen with
  | [y0, y1], _ => exact ⟨y0, y1, n, hl, by simpa using hf 0 f0 rfl, by simpa using hf 1 f1 rfl⟩

set_option maxRecDepth 100000 in
theorem entry_cells {H : Type} {enc : TypeId × Value → H} {w : World} {base : Nat} {spare : Nat → Bool} {held : Bool} {fuel : Nat} {cs : List Value} {x : DataW H × List MemPlace}
    (h : DataW.trod enc Try.prog w base spare held fuel 32 cs = some x) :
    ∃ (k n : Int) (s : ByteArray) (id : Int), cs = [.int .i64 k, .int .i64 n, .string s, .int .i64 id] ∧ s.size ≤ maxLen := by
  obtain ⟨y0, y1, m, hl, h0, h1⟩ := trod_struct2 Try.underlying32 h
  rw [Try.cells32] at hl
  obtain ⟨a, b, c, d, rfl⟩ := list4 hl
  simp only [Try.cells3, Try.cells30, List.drop, List.take] at h0 h1
  obtain ⟨z0, z1, z2, m', _, _, g0, g1, g2⟩ := Go.Deep.trod_struct3 Try.underlying30 h0
  simp only [Try.cells9, Try.cells3, List.drop, List.take] at g0 g1 g2
  obtain ⟨k, e0, _, _⟩ := DataW.trod_int Try.underlying3 g0
  obtain ⟨n, e1, _, _⟩ := DataW.trod_int Try.underlying3 g1
  obtain ⟨s, e2, _, hs⟩ := DataW.trod_string Try.underlying9 g2
  obtain ⟨id, e3, _, _⟩ := DataW.trod_int Try.underlying3 h1
  simp at e0 e1 e2 e3
  subst e0 e1 e2 e3
  exact ⟨_, _, _, _, rfl, hs⟩

theorem open_entry {H : Type} {enc : TypeId × Value → H} {w : World} {base : Nat} {spare : Nat → Bool} {held : Bool} {r : Reach} {b0 : Nat} {v : Value} {d : DataW H} {p : List MemPlace}
    (hv : Value.okWide Try.prog w r b0 32 v) (h : DataW.Trod enc Try.prog w base spare held 32 v d p) :
    ∃ (k n : Int) (s : ByteArray) (id : Int), v = .agg #[.int .i64 k, .int .i64 n, .string s, .int .i64 id] ∧ s.size ≤ maxLen := by
  obtain ⟨cs, rfl, _⟩ := okWide_struct Try.underlying32 hv
  obtain ⟨fuel, hf⟩ := h
  obtain ⟨k, n, s, id, hcs, h1⟩ := entry_cells hf
  refine ⟨k, n, s, id, ?_, h1⟩
  congr 1
  apply Array.ext'
  simpa [Value.cells] using hcs

theorem open_val {H : Type} {enc : TypeId × Value → H} {w : World} {base : Nat} {spare : Nat → Bool} {held : Bool} {r : Reach} {b0 : Nat} {v : Value} {d : DataW H} {p : List MemPlace}
    (hv : Value.okWide Try.prog w r b0 30 v) (h : DataW.Trod enc Try.prog w base spare held 30 v d p) :
    ∃ (k n : Int) (s : ByteArray), v = .agg #[.int .i64 k, .int .i64 n, .string s] ∧ s.size ≤ maxLen := by
  obtain ⟨y0, y1, y2, z0, z1, z2, m, rfl, e0, e1, hy0, hy1, hy2⟩ := open_agg3 Try.underlying30 (by kernel_rfl) Try.cells30 hv h
  obtain ⟨k, g0, _, _⟩ := DataW.trod_int Try.underlying3 hy0
  obtain ⟨n, g1, _, _⟩ := DataW.trod_int Try.underlying3 hy1
  obtain ⟨s, g2, _, hs⟩ := DataW.trod_string Try.underlying9 hy2
  simp at g0 g1 g2
  subst g0 g1 g2
  exact ⟨k, n, s, rfl, hs⟩

theorem open_entries {H : Type} {enc : TypeId × Value → H} {W : World} {base : Nat} {held : Bool} {v : Value} {d : DataW H} {p : List MemPlace}
    (h : DataW.Trod enc Try.prog W base (fun _ => true) held 22 v d p) (h1 : v.cells.toList = [v]) :
    ∃ (a : Option Addr) (cap : Nat) (L : List AEnt), v = .slice a L.length cap ∧ EntsAt W a L ∧ (∀ c ∈ L, c.fit) ∧ L.length ≤ maxLen := by
  obtain ⟨fuel, hf⟩ := h
  rw [h1] at hf
  rcases Go.Deep.open_slice Try.underlying22 hf with ⟨hcs, _⟩ | ⟨x, len, cap, m, n, D, Pl, hcs, _, hlc, hm, hmm, _, hx⟩
  · simp at hcs
    exact ⟨none, 0, [], hcs, Or.inl rfl, fun c hc => by simp at hc, Nat.zero_le _⟩
  · simp at hcs
    rw [Try.cells32] at hx
    have hlm : len ≤ m := by rw [hmm]; simpa using hlc
    have hq : ∀ i, i < len → ∃ c : AEnt, W.cells? base (x.add (i * 4)) 4 = some c.cells ∧ c.fit := fun i hi => by
      obtain ⟨cs, hc, ht⟩ := hx i (by omega)
      obtain ⟨k, n, s, id, rfl, hs⟩ := entry_cells ht
      exact ⟨⟨k, n, s, id⟩, hc, hs⟩
    have : Inhabited AEnt := ⟨⟨0, 0, ⟨#[]⟩, 0⟩⟩
    obtain ⟨F, hF⟩ := Go.Deep.choose_lt hq
    refine ⟨some x, cap, (List.range len).map F, by simpa using hcs, ?_, ?_, by simp; omega⟩
    · by_cases h0 : len = 0
      · left; simp [h0]
      · right
        obtain ⟨b, o, spot⟩ := x
        have hcell : ∀ i, i < len → ∀ j v, (F i).cells[j]? = some v → W.cell? (((⟨b, o, spot⟩ : Addr).add (i * 4)).add j) = some v := fun i hi j v hv => by
          obtain ⟨_, hl, hc⟩ := World.cells?_some (hF i hi).1
          have hj : j < 4 := by rw [← hl]; exact (List.getElem?_eq_some_iff.1 hv).1
          rw [hc j hj]; exact hv
        have hc0 := hcell 0 (by omega) 0 _ rfl
        have hspot : spot = none := by simpa [Addr.add] using World.cell?_spot hc0
        subst hspot
        refine ⟨b, o, rfl, ?_, fun i c hc j v hv => ?_⟩
        · have := World.block_lt_of_cell? W _ hc0
          simpa [Addr.add] using this
        · obtain ⟨hi, rfl⟩ := List.getElem?_eq_some_iff.1 hc
          simp only [List.length_map, List.length_range] at hi
          have := hcell i hi j v (by simpa using hv)
          rwa [Addr.add_mid, Addr.add_mid] at this
    · intro c hc
      obtain ⟨i, hi, rfl⟩ := List.mem_map.1 hc
      exact (hF i (List.mem_range.1 hi)).2

end Go.Proofs.Ytobblnlefhkanaa
