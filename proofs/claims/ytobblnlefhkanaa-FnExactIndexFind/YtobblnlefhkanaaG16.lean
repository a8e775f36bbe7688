/- The contract of impl.IndexSpan, over the seat's translation. -/
import Derived.Test.YtobblnlefhkanaaG15
import Derived.RangeFuncBox
import Derived.Shelf.Abstract
import Derived.Maps.AppendAt
import Derived.Test.YtobblnlefhkanaaG08
import Derived.Deep.QuietTactic
namespace Go.Proofs.Ytobblnlefhkanaa
open Go.RowKit Go.Shelf

attribute [local go_sem] Oper.semAt_some

theorem span_stops (m : Nat) (hm3 : 3 ≤ m) (n q s B : Nat) (a : Option Addr) (cap : Nat) (M : List AEnt) (x y : AEnt) (hA : Asc M) (hm : M.length ≤ 1048576) (hc : M.length ≤ cap) (w : World) (hn : n = w.heap.size) (hS : SpB n q s B a cap M x y w) :
    SeqStopsK Fence.wide m Try.prog 57 #[.pointer (some ⟨s, 0, none⟩), .pointer (some ⟨s + 1, 0, none⟩), .pointer (some ⟨s + 2, 0, none⟩)] encE (But n q) (fun ys => ys = spanY M x y) (fun pre => pre <+: spanY M x y) (spanY M x y).length w := fun l J Jx W hW hJ _ hY h0 => by
  refine span1_in m hm3 l n q s B a cap M x y hA hm hc J Jx W hJ (fun pre c W1 h1 h2 => ?_) (hS.but (But.of hW (Nat.le_of_eq hn))) h0
  obtain ⟨fn, tmps, assign, body, hy, hR⟩ := hY pre c W1 h1 h2
  refine ⟨fn, tmps, assign, body, hy, hR.mono ?_⟩
  rintro e W' (⟨rfl, h⟩ | ⟨rfl, h⟩)
  · exact ⟨true, rfl, fun _ => h, fun h => by cases h⟩
  · exact ⟨false, rfl, fun h => (by cases h), fun _ => h⟩

theorem But.set {n q : Nat} {W W' : World} (h : But n q W W') (o : Nat) (v : Value) : But n q W (W'.setCell ⟨q, o, none⟩ v) :=
  ⟨h.os, h.tape, h.output, by simpa [World.setCell] using h.size, fun k hk hq => (Below.heap_setCell W' ⟨q, o, none⟩ v k hq).trans (h.block k hk hq)⟩

theorem spb_start (a : Option Addr) (c : Nat) (M : List AEnt) (x y : AEnt) (w1 W0 : World) (hE : EntsAt w1 a M)
    (hW0 : ((((w1.alloc (.cells #[.slice a M.length c, .func (.func 50) #[] #[]] 55)).alloc (.cells #[.slice none 0 0] 43)).alloc (.cells #[.pointer (some ⟨w1.heap.size, 0, none⟩)] 72)).alloc (.cells #[.int .i64 x.k, .int .i64 x.n, .string x.s, .int .i64 x.id] 38)).alloc (.cells #[.int .i64 y.k, .int .i64 y.n, .string y.s, .int .i64 y.id] 38) = W0) :
    W0.heap.size = w1.heap.size + 5 ∧ SpB W0.heap.size (w1.heap.size + 1) (w1.heap.size + 1 + 1) w1.heap.size a c M x y W0 ∧ Boxed W0 (w1.heap.size + 1) 43 (.slice none 0 0) ∧ Below w1.heap.size w1 W0 := by
  have hB : ∀ (W : World) (o : Obj), Below W.heap.size W (W.alloc o) := fun W o => (Below.refl _ _).alloc (Nat.le_refl _) _
  obtain ⟨A1, h1⟩ : ∃ A, w1.alloc (.cells #[.slice a M.length c, .func (.func 50) #[] #[]] 55) = A := ⟨_, rfl⟩
  obtain ⟨A2, h2⟩ : ∃ A, A1.alloc (.cells #[.slice none 0 0] 43) = A := ⟨_, rfl⟩
  obtain ⟨A3, h3⟩ : ∃ A, A2.alloc (.cells #[.pointer (some ⟨w1.heap.size, 0, none⟩)] 72) = A := ⟨_, rfl⟩
  obtain ⟨A4, h4⟩ : ∃ A, A3.alloc (.cells #[.int .i64 x.k, .int .i64 x.n, .string x.s, .int .i64 x.id] 38) = A := ⟨_, rfl⟩
  rw [h1, h2, h3, h4] at hW0
  have z1 : A1.heap.size = w1.heap.size + 1 := by rw [← h1]; simp
  have z2 : A2.heap.size = w1.heap.size + 1 + 1 := by rw [← h2]; simp [z1]
  have z3 : A3.heap.size = w1.heap.size + 1 + 1 + 1 := by rw [← h3]; simp [z2]
  have z4 : A4.heap.size = w1.heap.size + 1 + 1 + 2 := by rw [← h4]; simp [z3]
  have z5 : W0.heap.size = w1.heap.size + 5 := by rw [← hW0]; simp [z4]
  have b1 : Below w1.heap.size w1 A1 := by rw [← h1]; exact hB _ _
  have b2 : Below A1.heap.size A1 A2 := by rw [← h2]; exact hB _ _
  have b3 : Below A2.heap.size A2 A3 := by rw [← h3]; exact hB _ _
  have b4 : Below A3.heap.size A3 A4 := by rw [← h4]; exact hB _ _
  have b5 : Below A4.heap.size A4 W0 := by rw [← hW0]; exact hB _ _
  have hs : SBox w1.heap.size (.slice a M.length c) (.func (.func 50) #[] #[]) A1 := by rw [← h1]; exact sbox_box _ _ _ _
  have hs5 := sbox_next (sbox_next (sbox_next (sbox_next hs (by omega) b2) (by omega) b3) (by omega) b4) (by omega) b5
  have hp : Box A2.heap.size [.pointer (some ⟨w1.heap.size, 0, none⟩)] A3 := by rw [← h3]; exact Box.start _ _ _
  have hp5 := (hp.next b4).next b5
  have hx : Box A3.heap.size x.cells A4 := by rw [← h4]; exact Box.start _ x.cells _
  have hx5 := hx.next b5
  have hy : Box A4.heap.size y.cells W0 := by rw [← hW0]; exact Box.start _ y.cells _
  have hi : Boxed A2 A1.heap.size 43 (.slice none 0 0) := by rw [← h2]; exact Boxed.new _ _ _
  have hi5 : Boxed W0 A1.heap.size 43 (.slice none 0 0) := by rw [← hW0, ← h4, ← h3]; exact ((hi.alloc _).alloc _).alloc _
  have hall : Below w1.heap.size w1 W0 := (((b1.trans (b2.mono (by omega))).trans (b3.mono (by omega))).trans (b4.mono (by omega))).trans (b5.mono (by omega))
  rw [z1] at hi5
  rw [z2] at hp5
  rw [z3] at hx5
  rw [z4] at hy
  refine ⟨z5, ⟨Nat.le_refl _, by omega, by omega, by omega, by omega, hp5.1 0 _ rfl, hx5.1, hy.1, hs5, ?_⟩, hi5, hall⟩
  rcases hE with h | ⟨b, o, e, hlt, hr⟩
  · exact Or.inl h
  · exact Or.inr ⟨b, o, e, by omega, by omega, fun i d hd j v hv => by rw [hall.cell (p := ⟨b, _, none⟩) hlt]; exact hr i d hd j v hv⟩

set_option maxRecDepth 100000 in
set_option maxHeartbeats 4000000 in
theorem impl_span (a : Option Addr) (cap : Nat) (L : List AEnt) (lo hi : AEnt) (w : World) (hL : EntsAt w a L) (h0 : a = none → cap = 0) (hf : ∀ c ∈ L, c.fit) (hm : L.length ≤ 1048576) :
    Calls Try.prog 27 #[.slice a L.length cap, .agg #[.int .i64 lo.k, .int .i64 lo.n, .string lo.s], .agg #[.int .i64 hi.k, .int .i64 hi.n, .string hi.s]] w
      fun e w' => ∃ v, e = .returned v ∧ OwnI w.heap.size v (spanL lo hi L) w' ∧ Below w.heap.size w w' := by
  have hm' : L.length ≤ maxLen := by unfold maxLen; omega
  have b1 : Below w.heap.size w (w.alloc (.cells #[.int .i64 lo.k, .int .i64 lo.n, .string lo.s] 36)) := (Below.refl _ _).alloc (Nat.le_refl _) _
  have b2 : Below (w.alloc (.cells #[.int .i64 lo.k, .int .i64 lo.n, .string lo.s] 36)).heap.size (w.alloc (.cells #[.int .i64 lo.k, .int .i64 lo.n, .string lo.s] 36)) ((w.alloc (.cells #[.int .i64 lo.k, .int .i64 lo.n, .string lo.s] 36)).alloc (.cells #[.int .i64 hi.k, .int .i64 hi.n, .string hi.s] 36)) := (Below.refl _ _).alloc (Nat.le_refl _) _
  have y1 := (Box.start w [.int .i64 lo.k, .int .i64 lo.n, .string lo.s] 36).next b2
  have y2 := Box.start (w.alloc (.cells #[.int .i64 lo.k, .int .i64 lo.n, .string lo.s] 36)) [.int .i64 hi.k, .int .i64 hi.n, .string hi.s] 36
  rw [size_alloc] at y2
  have HA : Hid (Box w.heap.size [.int .i64 lo.k, .int .i64 lo.n, .string lo.s] _ ∧ Box (w.heap.size + 1) [.int .i64 hi.k, .int .i64 hi.n, .string hi.s] _ ∧ Below w.heap.size w _ ∧ EntsAt _ a L) := ⟨y1, y2, b1.trans (b2.mono (by simp)), (hL.keep b1).keep b2⟩
  clear y1 y2 b1 b2 hL
  refine (callsIn_wide (n := 6)).1 ?_
  refine callsIn_of_wp_marks Try.func27 rfl trivial ?_ rfl
  simp only [Try.ntmps27, List.size_toArray, List.length_cons, List.length_nil, Nat.reduceAdd, Nat.reduceSub, Array.replicate_succ, Array.replicate_zero, List.push_toArray, List.append_toArray, List.nil_append, List.cons_append]
  gi_wp2
  refine ⟨trivial, (callsIn_wide.2 (entries_of a cap L _ HA.out.2.2.2 h0 hf hm')).mono ?_⟩
  rintro e w1 ⟨v, rfl, hv, hb⟩
  have hv' : OwnE w.heap.size v (okE L) w1 := hv.mono (by simp; omega)
  have H1 : Hid (Box w.heap.size [.int .i64 lo.k, .int .i64 lo.n, .string lo.s] w1 ∧ Box (w.heap.size + 1) [.int .i64 hi.k, .int .i64 hi.n, .string hi.s] w1 ∧ Below w.heap.size w w1) := ⟨HA.out.1.next hb, HA.out.2.1.next hb, HA.out.2.2.1.trans (hb.mono (by simp; omega))⟩
  obtain ⟨a1, c1, hV, hn1, hE1⟩ := hv'.slice
  subst hV
  have bs : Below w1.heap.size w1 (w1.alloc (.cells #[.slice a1 (okE L).length c1, .func (.func 50) #[] #[]] 55)) := (Below.refl _ _).alloc (Nat.le_refl _) _
  have bi : Below (w1.alloc (.cells #[.slice a1 (okE L).length c1, .func (.func 50) #[] #[]] 55)).heap.size (w1.alloc (.cells #[.slice a1 (okE L).length c1, .func (.func 50) #[] #[]] 55)) ((w1.alloc (.cells #[.slice a1 (okE L).length c1, .func (.func 50) #[] #[]] 55)).alloc (.cells #[.slice none 0 0] 43)) := (Below.refl _ _).alloc (Nat.le_refl _) _
  have hlo := ((H1.out.1.next bs).next bi).three
  have hhi := ((H1.out.2.1.next bs).next bi).three
  clear hb hv HA bs bi
  gi_wp2
  refine ⟨trivial, (callsIn_wide.2 (span_made w1.heap.size ⟨lo.k, lo.n, lo.s, 1⟩ ⟨hi.k, hi.n, hi.s, 60⟩ _)).mono ?_⟩
  rintro e w2 ⟨rfl, rfl⟩
  gi_wp2
  have hc1 : (okE L).length ≤ c1 := by
    rcases hv'.form with ⟨hV, hM⟩ | ⟨b, cap', hV, _, _, hc, _⟩
    · rw [hM]; exact Nat.zero_le _
    · rw [(Value.slice.inj hV).2.2]; exact hc
  obtain ⟨W0, hW0⟩ : ∃ W0, (((((w1.alloc (.cells #[.slice a1 (okE L).length c1, .func (.func 50) #[] #[]] 55)).alloc (.cells #[.slice none 0 0] 43)).alloc (.cells #[.pointer (some ⟨w1.heap.size, 0, none⟩)] 72)).alloc (.cells #[.int .i64 lo.k, .int .i64 lo.n, .string lo.s, .int .i64 1] 38)).alloc (.cells #[.int .i64 hi.k, .int .i64 hi.n, .string hi.s, .int .i64 60] 38)) = W0 := ⟨_, rfl⟩
  obtain ⟨hz0, hSp, hbx, hbw⟩ := spb_start a1 c1 (okE L) ⟨lo.k, lo.n, lo.s, 1⟩ ⟨hi.k, hi.n, hi.s, 60⟩ w1 W0 hE1 hW0
  rw [hW0]
  have hBW : Below w.heap.size w W0 := H1.out.2.2.trans (hbw.mono H1.out.2.2.size)
  have hww : w.heap.size ≤ w1.heap.size := H1.out.2.2.size
  obtain ⟨i0, hi0, hzz, hsz, hby⟩ := Try.infoI
  clear hW0 hlo hhi hbw hE1 hn1 hv'
  have hlen : (spanY (okE L) ⟨lo.k, lo.n, lo.s, 1⟩ ⟨hi.k, hi.n, hi.s, 60⟩).length ≤ 16 := by
    unfold spanY
    have h1 := (List.takeWhile_prefix (l := (okE L).drop (posE (okE L) ⟨lo.k, lo.n, lo.s, 1⟩)) fun c => decide (cmpE c ⟨hi.k, hi.n, hi.s, 60⟩ ≤ 0)).length_le
    have h2 := okE_len L
    rw [List.length_drop] at h1
    omega
  refine wpIn_rangeFunc_ownH (n := 6) rfl (by omega) (gf := 57) (lb := #[.pointer (some ⟨w1.heap.size + 1 + 1, 0, none⟩), .pointer (some ⟨w1.heap.size + 1 + 1 + 1, 0, none⟩), .pointer (some ⟨w1.heap.size + 1 + 1 + 2, 0, none⟩)]) rfl trivial (enters_of Try.func57 (by kernel_rfl) rfl)
    (span_stops 5 (by omega) W0.heap.size (w1.heap.size + 1) (w1.heap.size + 1 + 1) w1.heap.size a1 c1 (okE L) ⟨lo.k, lo.n, lo.s, 1⟩ ⟨hi.k, hi.n, hi.s, 60⟩ (okE_asc L) (by have := okE_len L; omega) hc1 W0 rfl hSp)
    (fun h k => h.trans k) (fun W l o o' hl _ _ _ => ⟨rfl, rfl, rfl, by simp, fun k hk _ => World.putObj_heap_other (by omega)⟩) (Below.refl _ _) (fun _ => rfl)
    (fun pre W => (∃ v, Boxed W (w1.heap.size + 1) 43 v ∧ W.ownsRow W0.heap.size 3 1 v (pre.map AEnt.id).length ((pre.map AEnt.id).map (Value.int .i64)) ∧ True) ∧ Below w.heap.size w W ∧ W0.heap.size ≤ W.heap.size)
    (fun _ _ _ => False)
    (OwnFrom.and (Own.from (holdsRow_own W0.heap.size (w1.heap.size + 1) 43 3 1 (fun pre : List AEnt => (pre.map AEnt.id).length) (fun pre : List AEnt => (pre.map AEnt.id).map (Value.int .i64)) (fun _ _ => True)) _) (OwnFrom.and (ownFrom_below (Nat.le_refl _) (by omega)) (fun _ _ _ _ hs hg _ => Nat.le_trans hs hg.size)))
    (fun _ _ _ _ _ hs _ _ => hs)
    ⟨⟨_, hbx, World.ownsRow_nil _ _ _ _, trivial⟩, hBW, Nat.le_refl _⟩
    (fun c a' W => ∃ Bx, W0.heap.size ≤ Bx ∧ OneE Bx c W ∧ a' = { tmps := #[.slice a L.length cap, .agg #[.int .i64 lo.k, .int .i64 lo.n, .string lo.s], .agg #[.int .i64 hi.k, .int .i64 hi.n, .string hi.s], undef, .pointer (some ⟨w.heap.size, 0, none⟩), .pointer (some ⟨w.heap.size + 1, 0, none⟩), .slice none 0 0, .pointer (some ⟨w1.heap.size, 0, none⟩), .bool (indexOk L), .pointer (some ⟨w1.heap.size + 1, 0, none⟩), .pointer (some ⟨Bx, 0, none⟩), .tuple #[.agg #[.slice a1 (okE L).length c1, .func (.func 50) #[] #[]], .bool (indexOk L)], .slice a L.length cap, .tuple #[.agg #[.slice a1 (okE L).length c1, .func (.func 50) #[] #[]], .bool (indexOk L)], .agg #[.slice a1 (okE L).length c1, .func (.func 50) #[] #[]], .bool (indexOk L), .agg #[.int .i64 lo.k, .int .i64 lo.n, .string lo.s], .agg #[.int .i64 lo.k, .int .i64 lo.n, .string lo.s, .int .i64 1], .agg #[.int .i64 hi.k, .int .i64 hi.n, .string hi.s], .agg #[.int .i64 hi.k, .int .i64 hi.n, .string hi.s, .int .i64 60], .func (.func 57) #[] #[.pointer (some ⟨w1.heap.size + 1 + 1, 0, none⟩), .pointer (some ⟨w1.heap.size + 1 + 1 + 1, 0, none⟩), .pointer (some ⟨w1.heap.size + 1 + 1 + 2, 0, none⟩)], .agg #[.int .i64 c.k, .int .i64 c.n, .string c.s, .int .i64 c.id], undef, undef, undef, undef, undef, undef], defers := [] })
    (fun c a' => by
      rintro _ X Y row ⟨Bx, hBx, hX, ha⟩ hg hrow
      exact ⟨Bx, hBx, hX.kept hg (fun e' => by obtain ⟨_, o, ho, hc⟩ := hrow Bx e'.symm; rw [show X.heap[Bx]? = _ from hX] at ho; cases ho; cases hc), ha⟩) ?assign ?body ?done ?stop
  case assign =>
    rintro l pre c W K ⟨⟨v, hv, hrow, _⟩, hB, hz⟩ hK
    unfold encE
    gi_wp2
    exact hK _ _ ((KeepsOthers.alloc _ _).from _) (But.of ((Below.refl _ W).alloc (Nat.le_refl _) _) hz) ⟨⟨v, hv.alloc _, hrow.alloc _, trivial⟩, hB.alloc hB.size _, by simp; omega⟩ ⟨W.heap.size, hz, OneE.new W c, rfl⟩
  case body =>
    rintro l pre c a' W hl ⟨r, hr⟩ ⟨⟨v, hv, hrow, _⟩, hB, hz⟩ ⟨Bx, hBx, hX, rfl⟩ hlt
    have hc := hv.cell
    have hid : W.cell? ⟨Bx, 3, none⟩ = some (.int .i64 c.id) := by simp [World.cell?, show W.heap[Bx]? = _ from hX]
    have hpl : pre.length ≤ 16 := by omega
    have hby6 : ((pre.map AEnt.id).length + 1) * i0.bytes ≤ 140737488355328 := by
      have : ((pre.map AEnt.id).length + 1) * i0.bytes ≤ 2097152 * 128 := Nat.mul_le_mul (by simp; omega) hby
      omega
    have hzq : w1.heap.size + 1 < W.heap.size := by omega
    gi_wp2_with (gi_at_builtin; refine wpListIn_append_own _ rfl _ _ 43 rfl W0.heap.size 3 i0 (.int .i64 0) 1 i0.bytes Try.underlying43 hi0 hzz hsz rfl rfl (by decide) _ _ _ rfl (hrow.alloc _) ⟨W.heap.size, 0, none⟩ 1 1 [.int .i64 c.id] rfl rfl (cell_one_new _ _ _) (by simp [Value.oneCell']) (by unfold maxLen; simp; omega) hby6 (by simp; omega) ?_; intro v' w7 hown' hgrow _; obtain ⟨g', cap', rfl⟩ := ownsRow_succ hown'; have hv1 : Boxed w7 (w1.heap.size + 1) 43 v := (hv.alloc _).kept hgrow (hv.not_row (by decide) hrow); have hc1 := hv1.cell; have hf1 := hv1.frozen)
    have hg7 : (W.alloc (.cells #[.int .i64 c.id] 3)).grownBy w7 v.ownBlock := hgrow
    clear hgrow
    have hb7 : Below W0.heap.size W w7 := ((Below.refl _ W).alloc hz _).grown hg7 (by simp; omega) (fun j hj => (World.ownsRow.lt hrow j hj).1)
    have hk7 : KeepsOthers W w7 := (KeepsOthers.alloc W _).trans (KeepsOthers.of_grownBy hg7 fun j o ej hj => by
      rcases (hrow.alloc (.cells #[.int .i64 c.id] 3)).2 with ⟨rfl, _⟩ | ⟨g, cap, cur, rfl, _, hgb, _⟩
      · simp [Value.ownBlock] at ej
      · obtain rfl : g = j := by simpa [Value.ownBlock] using ej
        rw [hgb] at hj; cases hj; rfl)
    have hr7 := hown'.kept (grownBy_setCell' w7 (w1.heap.size + 1) (.slice (some ⟨g', 0, none⟩) ((pre.map AEnt.id).length + 1) cap')) (.inr (hv1.not_row (by decide) hown').symm)
    have hv7 := hv1.set (.slice (some ⟨g', 0, none⟩) ((pre.map AEnt.id).length + 1) cap')
    simp only [List.length_map] at hr7 hv7
    refine ⟨(hk7.trans (KeepsOthers.setCell _ _ _)).from _, (But.of hb7 (Nat.le_refl _)).set _ _, ⟨_, hv7, ?_, trivial⟩, (hB.trans (hb7.mono (by omega))).setCell (p := ⟨w1.heap.size + 1, 0, none⟩) (by simp; omega) _, ?_⟩
    · simpa using hr7
    · have := hb7.size
      simp only [World.setCell]
      simpa using Nat.le_trans hz this
  case done =>
    rintro D ys W hD rfl ⟨⟨v, hv, hrow, _⟩, hB, hz⟩ hK
    have hc := hv.cell
    gi_wp2
    refine ⟨by simp, .inl ⟨_, _, rfl, run_takeDeferred hK, ?_⟩⟩
    refine ⟨_, results_tmp rfl _ _ _, v, rfl, ?_, hB.trans (belowK_b (w := w) (Nat.le_refl _) W D _ _ (by omega) hK rfl rfl)⟩
    have h := ownsRow_putObj hrow (.deferred none) hK rfl
    have hsp : spanL lo hi L = (spanY (okE L) ⟨lo.k, lo.n, lo.s, 1⟩ ⟨hi.k, hi.n, hi.s, 60⟩).map AEnt.id := by
      unfold spanL spanY spanIn okE
      cases hI : indexOk L
      · rfl
      · rw [if_pos rfl, if_pos rfl, span_eq hI]
    rw [hsp]
    exact OwnI.mono h (by omega)
  case stop =>
    rintro D c pre W _ _ h _
    exact h.elim

end Go.Proofs.Ytobblnlefhkanaa

/- The contract of impl.IndexFind, over the seat's translation. -/
namespace Go.Proofs.Ytobblnlefhkanaa
open Go.RowKit

set_option maxRecDepth 100000 in
set_option maxHeartbeats 1000000 in
theorem impl_find (a : Option Addr) (cap : Nat) (L : List AEnt) (x : AEnt) (w : World) (hL : EntsAt w a L) (h0 : a = none → cap = 0) (hf : ∀ c ∈ L, c.fit) (hm : L.length ≤ 1048576) :
    Calls Try.prog 32 #[.slice a L.length cap, .agg #[.int .i64 x.k, .int .i64 x.n, .string x.s]] w
      fun e w' => ∃ v, e = .returned v ∧ OwnI w.heap.size v (spanL x x L) w' ∧ Below w.heap.size w w' := by
  have bA : Below w.heap.size w (w.alloc (.cells #[.int .i64 x.k, .int .i64 x.n, .string x.s] 36)) := (Below.refl _ _).alloc (Nat.le_refl _) _
  have HA : Hid (EntsAt _ a L ∧ Below w.heap.size w _) := ⟨hL.keep bA, bA⟩
  have x0 := (Box.start w [.int .i64 x.k, .int .i64 x.n, .string x.s] 36).three
  clear bA hL
  go_enter Try.func32, Try.ntmps32
  go_wp2_with fail
  refine (impl_span a cap L x x _ HA.out.1 h0 hf hm).mono ?_
  rintro e w1 ⟨v, rfl, hv, hb⟩
  have HF : Hid (OwnI w.heap.size v (spanL x x L) w1 ∧ Below w.heap.size w w1) := ⟨hv.mono (by simp), HA.out.2.trans (hb.mono (by simp))⟩
  clear hv hb HA
  go_wp2_with fail
  go_ret
  exact ⟨_, rfl, HF.out⟩

end Go.Proofs.Ytobblnlefhkanaa

/- The contract of spec.IndexOnce, over the seat's translation. -/
namespace Go.Proofs.Ytobblnlefhkanaa
open Go.RowKit

/-- The same value twice, and not nothing. -/
def twice (c d : AEnt) : Bool := !(d.k == 0) && eqV d c
def onceB (L : List AEnt) : Bool := (List.range L.length).all fun i => match L[i]?, L[i + 1]? with | some c, some d => !(twice c d) | _, _ => true
theorem once_bad {L : List AEnt} {k : Nat} {c d : AEnt} (hc : L[k]? = some c) (hd : L[k + 1]? = some d) (h : twice c d = true) : onceB L = false := by
  unfold onceB
  rw [List.all_eq_false]
  exact ⟨k, List.mem_range.2 (List.getElem?_eq_some_iff.1 hc).1, by simp [hc, hd, h]⟩
theorem once_ok {L : List AEnt} (h : ∀ i c d, i + 1 < L.length → L[i]? = some c → L[i + 1]? = some d → twice c d = false) : onceB L = true := by
  unfold onceB
  rw [List.all_eq_true]
  intro i hi
  have hi := List.mem_range.1 hi
  rw [List.getElem?_eq_getElem hi]
  cases hd : L[i + 1]? with
  | none => rfl
  | some d => simp [h i _ d (List.getElem?_eq_some_iff.1 hd).1 (List.getElem?_eq_getElem hi) hd]
def onceOk (L : List AEnt) : Bool := indexOk L && onceB L

set_option maxHeartbeats 1000000 in
theorem eql_val (c d : AEnt) (w : World) :
    (binOp .eql 36 (.agg #[.int .i64 c.k, .int .i64 c.n, .string c.s]) (.agg #[.int .i64 d.k, .int .i64 d.n, .string d.s])).run Try.prog w = .ok (.bool (eqV c d)) w := by
  unfold eqV
  go_simp
  by_cases a : c.k = d.k <;> by_cases b : c.n = d.n <;> by_cases e : c.s.toList = d.s.toList <;> simp [a, b, e]

set_option maxRecDepth 100000 in
set_option maxHeartbeats 2000000 in
theorem spec_once (a : Option Addr) (cap : Nat) (L : List AEnt) (w : World) (hL : EntsAt w a L) (hf : ∀ c ∈ L, c.fit) (hm : L.length ≤ maxLen) :
    Calls Try.prog 14 #[.slice a L.length cap] w fun e w' => e = .returned (.bool (onceOk L)) ∧ Below w.heap.size w w' := by
  have hm' := hm
  unfold maxLen at hm'
  go_enter Try.func14, Try.ntmps14
  go_wp2_with fail
  go_loopw [3] (fun i wr => ∃ k : Nat, k ≤ L.length ∧ i = .int .i64 ((k : Int) + 1) ∧ Hid ((∀ i c d, i < k → L[i]? = some c → L[i + 1]? = some d → twice c d = false) ∧ Below w.heap.size w wr)) (fun i _ => L.length - (intOf i).toNat)
  case atStart => exact ⟨0, Nat.zero_le _, rfl, ⟨fun i c d hi => absurd hi (Nat.not_lt_zero _), Below.refl _ _⟩⟩
  case round =>
    obtain ⟨k, hk, rfl, hH⟩ := hrel
    by_cases hlt : k + 1 < L.length
    · have hlj : k < L.length := by omega
      obtain ⟨b, o, hab, hbl, hr⟩ := (hL.keep hH.out.2).at hlt
      obtain ⟨b', o', hab', -, hr'⟩ := (hL.keep hH.out.2).at hlj
      rw [hab] at hab'
      simp only [Option.some.injEq, Addr.mk.injEq] at hab'
      obtain ⟨rfl, rfl, _⟩ := hab'
      have hc1 := List.getElem?_eq_getElem hlj
      have hc2 := List.getElem?_eq_getElem hlt
      revert hr hr' hc1 hc2
      generalize L[k] = c
      generalize L[k + 1] = d
      intro hr hr' hc1 hc2
      have hix : ∀ wx, (Instr.indexAt 25 (.slice a L.length cap) (.int .i64 k)).run Try.prog wx = .ok (.pointer (some ⟨b, o + k * 4, none⟩)) wx := fun wx => by
        rw [hab]; exact run_ix4 _ _ _ _ _ _ _ wx hlj Try.underlying25 (Try.sizeOf38 wx)
      obtain ⟨q, hq⟩ : ∃ q, q = (k + 1) * 4 := ⟨_, rfl⟩
      have hiy : ∀ wx, (Instr.indexAt 25 (.slice a L.length cap) (.int .i64 ((k : Int) + 1))).run Try.prog wx = .ok (.pointer (some ⟨b, o + q, none⟩)) wx := fun wx => by
        rw [hab, hq]; exact run_ix4 _ _ _ _ _ (k + 1) _ wx hlt Try.underlying25 (Try.sizeOf38 wx)
      rw [← hq] at hr
      have hT1 := cells4_of hr'
      have hT2 := cells4_of hr
      have hC : Hid (L[k]? = some c ∧ L[k + 1]? = some d) := ⟨hc1, hc2⟩
      have hlti : (k : Int) + 1 < L.length := by omega
      have hwk : IntKind.i64.wrap (k : Int) = (k : Int) := by
        simp [IntKind.wrap, IntKind.bits, IntKind.signed]
        omega
      have hqe := eql_val d c
      clear hab hr hr' hL hbl hc1 hc2 hq
      have hkd : ((d.k == 0) = true ∧ (d.k != 0) = false) ∨ ((d.k == 0) = false ∧ (d.k != 0) = true) := by by_cases h : d.k = 0 <;> simp [h]
      rcases hkd with ⟨hk0, hk1⟩ | ⟨hk0, hk1⟩
      · have HT : Hid (twice c d = false) := by show twice c d = false; simp [twice, hk0]
        go_wp2_with fail
        go_quiet (fail)
        have hP : Hid (Below w.heap.size w (wr.drewN nq)) := hH.out.2.trans (quiet_below _ _ _)
        go_wp2_with fail
        go_roundw
        case rel =>
          refine ⟨k + 1, by omega, by go_num, ⟨fun i x y hi hx hy => ?_, hP.out⟩⟩
          by_cases hik : i = k
          · subst hik
            rw [hC.out.1] at hx
            rw [hC.out.2] at hy
            cases hx; cases hy
            exact HT.out
          · exact hH.out.1 i x y (by omega) hx hy
        case measure => simp [intOf]; omega
      · cases hv : eqV d c
        · have HT : Hid (twice c d = false) := by show twice c d = false; simp [twice, hv]
          go_wp2_with fail
          go_quiet (fail)
          have hP : Hid (Below w.heap.size w (wr.drewN nq)) := hH.out.2.trans (quiet_below _ _ _)
          go_wp2_with fail
          go_roundw
          case rel =>
            refine ⟨k + 1, by omega, by go_num, ⟨fun i x y hi hx hy => ?_, hP.out⟩⟩
            by_cases hik : i = k
            · subst hik
              rw [hC.out.1] at hx
              rw [hC.out.2] at hy
              cases hx; cases hy
              exact HT.out
            · exact hH.out.1 i x y (by omega) hx hy
          case measure => simp [intOf]; omega
        · have HT : Hid (twice c d = true) := by show twice c d = true; simp [twice, hv, hk0]
          go_wp2_with fail
          go_quiet (fail)
          have hP : Hid (Below w.heap.size w (wr.drewN nq)) := hH.out.2.trans (quiet_below _ _ _)
          go_wp2_with fail
          go_ret
          exact ⟨ret_bool (by rw [onceOk, once_bad hC.out.1 hC.out.2 HT.out, Bool.and_false]), hP.out⟩
    · have hlti : ¬ (k : Int) + 1 < L.length := by omega
      have hO : Hid (onceB L = true) := once_ok fun i x y hi hx hy => hH.out.1 i x y (by omega) hx hy
      have hL2 := hL.keep hH.out.2
      go_wp2_with fail
      refine (spec_index _ _ _ _ hL2 hf hm).mono ?_
      rintro e w1 ⟨rfl, hb⟩
      have hP : Hid (Below w.heap.size w w1) := hH.out.2.trans (hb.mono hH.out.2.size)
      clear hb hL2
      go_wp2_with fail
      go_ret
      exact ⟨ret_bool (by rw [onceOk, hO.out, Bool.and_true]), hP.out⟩

end Go.Proofs.Ytobblnlefhkanaa
