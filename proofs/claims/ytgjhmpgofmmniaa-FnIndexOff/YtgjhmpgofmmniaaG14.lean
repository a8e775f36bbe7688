/- The contract of impl.IndexSpan, over the seat's translation. -/
import Derived.Test.YtgjhmpgofmmniaaG13
import Derived.RangeFuncBox
import Derived.Shelf.Abstract
import Derived.Maps.AppendAt
import Derived.Test.YtgjhmpgofmmniaaG08
import Derived.Test.YtgjhmpgofmmniaaIxR1
namespace Go.Proofs.Ytgjhmpgofmmniaa
open Go.RowKit Go.Shelf

attribute [local go_sem] Oper.semAt_some

theorem span_stops (m : Nat) (hm3 : 3 ≤ m) (n q s B : Nat) (a : Option Addr) (cap : Nat) (M : List AEnt) (x y : AEnt) (hA : Asc M) (hm : M.length ≤ 1048576) (hc : M.length ≤ cap) (w : World) (hn : n = w.heap.size) (hS : SpB n q s B a cap M x y w) :
    SeqStopsK Fence.wide m Try.prog 51 #[.pointer (some ⟨s, 0, none⟩), .pointer (some ⟨s + 1, 0, none⟩), .pointer (some ⟨s + 2, 0, none⟩)] encE (But n q) (fun ys => ys = spanY M x y) (fun pre => pre <+: spanY M x y) (spanY M x y).length w := fun l J Jx W hW hJ _ hY h0 => by
  refine span1_in m hm3 l n q s B a cap M x y hA hm hc J Jx W hJ (fun pre c W1 h1 h2 => ?_) (hS.but (But.of hW (Nat.le_of_eq hn))) h0
  obtain ⟨fn, tmps, assign, body, hy, hR⟩ := hY pre c W1 h1 h2
  refine ⟨fn, tmps, assign, body, hy, hR.mono ?_⟩
  rintro e W' (⟨rfl, h⟩ | ⟨rfl, h⟩)
  · exact ⟨true, rfl, fun _ => h, fun h => by cases h⟩
  · exact ⟨false, rfl, fun h => (by cases h), fun _ => h⟩

theorem But.set {n q : Nat} {W W' : World} (h : But n q W W') (o : Nat) (v : Value) : But n q W (W'.setCell ⟨q, o, none⟩ v) :=
  ⟨h.os, h.tape, h.output, by simpa [World.setCell] using h.size, fun k hk hq => (Below.heap_setCell W' ⟨q, o, none⟩ v k hq).trans (h.block k hk hq)⟩

theorem spb_start (a : Option Addr) (c : Nat) (M : List AEnt) (x y : AEnt) (w1 W0 : World) (hE : EntsAt w1 a M)
    (hW0 : ((((w1.alloc (.cells #[.slice a M.length c, .func (.func 47) #[] #[]] 49)).alloc (.cells #[.slice none 0 0] 30)).alloc (.cells #[.pointer (some ⟨w1.heap.size, 0, none⟩)] 72)).alloc (.cells #[.int .i64 x.k, .int .i64 x.n, .string x.s, .int .i64 x.id] 29)).alloc (.cells #[.int .i64 y.k, .int .i64 y.n, .string y.s, .int .i64 y.id] 29) = W0) :
    W0.heap.size = w1.heap.size + 5 ∧ SpB W0.heap.size (w1.heap.size + 1) (w1.heap.size + 1 + 1) w1.heap.size a c M x y W0 ∧ Boxed W0 (w1.heap.size + 1) 30 (.slice none 0 0) ∧ Below w1.heap.size w1 W0 := by
  have hB : ∀ (W : World) (o : Obj), Below W.heap.size W (W.alloc o) := fun W o => (Below.refl _ _).alloc (Nat.le_refl _) _
  obtain ⟨A1, h1⟩ : ∃ A, w1.alloc (.cells #[.slice a M.length c, .func (.func 47) #[] #[]] 49) = A := ⟨_, rfl⟩
  obtain ⟨A2, h2⟩ : ∃ A, A1.alloc (.cells #[.slice none 0 0] 30) = A := ⟨_, rfl⟩
  obtain ⟨A3, h3⟩ : ∃ A, A2.alloc (.cells #[.pointer (some ⟨w1.heap.size, 0, none⟩)] 72) = A := ⟨_, rfl⟩
  obtain ⟨A4, h4⟩ : ∃ A, A3.alloc (.cells #[.int .i64 x.k, .int .i64 x.n, .string x.s, .int .i64 x.id] 29) = A := ⟨_, rfl⟩
  rw [h1, h2, h3, h4] at hW0
  have z1 : A1.heap.size = w1.heap.size + 1 := by rw [← h1]; simp
  have z2 : A2.heap.size = w1.heap.size + 1 + 1 := by rw [← h2]; simp [z1]
  have z3 : A3.heap.size = w1.heap.size + 1 + 1 + 1 := by rw [← h3]; simp [z2]
  have z4 : A4.heap.size = w1.heap.size + 1 + 1 + 2 := by rw [← h4]; simp [z3]
  have z5 : W0.heap.size = w1.heap.size + 5 := by rw [← hW0]; simp [z4]
  have b1 : Below w1.heap.size w1 A1 := by rw [← h1]; exact hB _ _
  have b2 : Below A1.heap.size A1 A2 := by rw [← h2]; exact hB _ _
  have b3 : Below A2.heap.size A2 A3 := by rw [← h3]; exact hB _ _
  have b4 : Below A3.heap.size A3 A4 := by rw [← h4]; exact hB _ _
  have b5 : Below A4.heap.size A4 W0 := by rw [← hW0]; exact hB _ _
  have hs : SBox w1.heap.size (.slice a M.length c) (.func (.func 47) #[] #[]) A1 := by rw [← h1]; exact sbox_box _ _ _ _
  have hs5 := sbox_next (sbox_next (sbox_next (sbox_next hs (by omega) b2) (by omega) b3) (by omega) b4) (by omega) b5
  have hp : Box A2.heap.size [.pointer (some ⟨w1.heap.size, 0, none⟩)] A3 := by rw [← h3]; exact Box.start _ _ _
  have hp5 := (hp.next b4).next b5
  have hx : Box A3.heap.size x.cells A4 := by rw [← h4]; exact Box.start _ x.cells _
  have hx5 := hx.next b5
  have hy : Box A4.heap.size y.cells W0 := by rw [← hW0]; exact Box.start _ y.cells _
  have hi : Boxed A2 A1.heap.size 30 (.slice none 0 0) := by rw [← h2]; exact Boxed.new _ _ _
  have hi5 : Boxed W0 A1.heap.size 30 (.slice none 0 0) := by rw [← hW0, ← h4, ← h3]; exact ((hi.alloc _).alloc _).alloc _
  have hall : Below w1.heap.size w1 W0 := (((b1.trans (b2.mono (by omega))).trans (b3.mono (by omega))).trans (b4.mono (by omega))).trans (b5.mono (by omega))
  rw [z1] at hi5
  rw [z2] at hp5
  rw [z3] at hx5
  rw [z4] at hy
  refine ⟨z5, ⟨Nat.le_refl _, by omega, by omega, by omega, by omega, hp5.1 0 _ rfl, hx5.1, hy.1, hs5, ?_⟩, hi5, hall⟩
  rcases hE with h | ⟨b, o, e, hlt, hr⟩
  · exact Or.inl h
  · exact Or.inr ⟨b, o, e, by omega, by omega, fun i d hd j v hv => by rw [hall.cell (p := ⟨b, _, none⟩) hlt]; exact hr i d hd j v hv⟩

set_option maxRecDepth 100000 in
set_option maxHeartbeats 4000000 in
theorem impl_span (a : Option Addr) (cap : Nat) (L : List AEnt) (lo hi : AEnt) (w : World) (hL : EntsAt w a L) (h0 : a = none → cap = 0) (hf : ∀ c ∈ L, c.fit) (hm : L.length ≤ 1048576) :
    Calls Try.prog 15 #[.slice a L.length cap, .agg #[.int .i64 lo.k, .int .i64 lo.n, .string lo.s], .agg #[.int .i64 hi.k, .int .i64 hi.n, .string hi.s]] w
      fun e w' => ∃ v, e = .returned v ∧ OwnI w.heap.size v (spanL lo hi L) w' ∧ Below w.heap.size w w' := by
  have hm' : L.length ≤ maxLen := by unfold maxLen; omega
  have b1 : Below w.heap.size w (w.alloc (.cells #[.int .i64 lo.k, .int .i64 lo.n, .string lo.s] 27)) := (Below.refl _ _).alloc (Nat.le_refl _) _
  have b2 : Below (w.alloc (.cells #[.int .i64 lo.k, .int .i64 lo.n, .string lo.s] 27)).heap.size (w.alloc (.cells #[.int .i64 lo.k, .int .i64 lo.n, .string lo.s] 27)) ((w.alloc (.cells #[.int .i64 lo.k, .int .i64 lo.n, .string lo.s] 27)).alloc (.cells #[.int .i64 hi.k, .int .i64 hi.n, .string hi.s] 27)) := (Below.refl _ _).alloc (Nat.le_refl _) _
  have y1 := (Box.start w [.int .i64 lo.k, .int .i64 lo.n, .string lo.s] 27).next b2
  have y2 := Box.start (w.alloc (.cells #[.int .i64 lo.k, .int .i64 lo.n, .string lo.s] 27)) [.int .i64 hi.k, .int .i64 hi.n, .string hi.s] 27
  rw [size_alloc] at y2
  have HA : Hid (Box w.heap.size [.int .i64 lo.k, .int .i64 lo.n, .string lo.s] _ ∧ Box (w.heap.size + 1) [.int .i64 hi.k, .int .i64 hi.n, .string hi.s] _ ∧ Below w.heap.size w _ ∧ EntsAt _ a L) := ⟨y1, y2, b1.trans (b2.mono (by simp)), (hL.keep b1).keep b2⟩
  clear y1 y2 b1 b2 hL
  refine (callsIn_wide (n := 6)).1 ?_
  refine callsIn_of_wp_marks Try.func15 rfl trivial ?_ rfl
  simp only [Try.ntmps15, List.size_toArray, List.length_cons, List.length_nil, Nat.reduceAdd, Nat.reduceSub, Array.replicate_succ, Array.replicate_zero, List.push_toArray, List.append_toArray, List.nil_append, List.cons_append]
  gi_wp2
  refine ⟨trivial, (callsIn_wide.2 (entries_of a cap L _ HA.out.2.2.2 h0 hf hm')).mono ?_⟩
  rintro e w1 ⟨v, rfl, hv, hb⟩
  have hv' : OwnE w.heap.size v (okE L) w1 := hv.mono (by simp; omega)
  have H1 : Hid (Box w.heap.size [.int .i64 lo.k, .int .i64 lo.n, .string lo.s] w1 ∧ Box (w.heap.size + 1) [.int .i64 hi.k, .int .i64 hi.n, .string hi.s] w1 ∧ Below w.heap.size w w1) := ⟨HA.out.1.next hb, HA.out.2.1.next hb, HA.out.2.2.1.trans (hb.mono (by simp; omega))⟩
  obtain ⟨a1, c1, hV, hn1, hE1⟩ := hv'.slice
  subst hV
  have bs : Below w1.heap.size w1 (w1.alloc (.cells #[.slice a1 (okE L).length c1, .func (.func 47) #[] #[]] 49)) := (Below.refl _ _).alloc (Nat.le_refl _) _
  have bi : Below (w1.alloc (.cells #[.slice a1 (okE L).length c1, .func (.func 47) #[] #[]] 49)).heap.size (w1.alloc (.cells #[.slice a1 (okE L).length c1, .func (.func 47) #[] #[]] 49)) ((w1.alloc (.cells #[.slice a1 (okE L).length c1, .func (.func 47) #[] #[]] 49)).alloc (.cells #[.slice none 0 0] 30)) := (Below.refl _ _).alloc (Nat.le_refl _) _
  have hlo := ((H1.out.1.next bs).next bi).three
  have hhi := ((H1.out.2.1.next bs).next bi).three
  clear hb hv HA bs bi
  gi_wp2
  refine ⟨trivial, (callsIn_wide.2 (span_made w1.heap.size ⟨lo.k, lo.n, lo.s, 1⟩ ⟨hi.k, hi.n, hi.s, 60⟩ _)).mono ?_⟩
  rintro e w2 ⟨rfl, rfl⟩
  gi_wp2
  have hc1 : (okE L).length ≤ c1 := by
    rcases hv'.form with ⟨hV, hM⟩ | ⟨b, cap', hV, _, _, hc, _⟩
    · rw [hM]; exact Nat.zero_le _
    · rw [(Value.slice.inj hV).2.2]; exact hc
  obtain ⟨W0, hW0⟩ : ∃ W0, (((((w1.alloc (.cells #[.slice a1 (okE L).length c1, .func (.func 47) #[] #[]] 49)).alloc (.cells #[.slice none 0 0] 30)).alloc (.cells #[.pointer (some ⟨w1.heap.size, 0, none⟩)] 72)).alloc (.cells #[.int .i64 lo.k, .int .i64 lo.n, .string lo.s, .int .i64 1] 29)).alloc (.cells #[.int .i64 hi.k, .int .i64 hi.n, .string hi.s, .int .i64 60] 29)) = W0 := ⟨_, rfl⟩
  obtain ⟨hz0, hSp, hbx, hbw⟩ := spb_start a1 c1 (okE L) ⟨lo.k, lo.n, lo.s, 1⟩ ⟨hi.k, hi.n, hi.s, 60⟩ w1 W0 hE1 hW0
  rw [hW0]
  have hBW : Below w.heap.size w W0 := H1.out.2.2.trans (hbw.mono H1.out.2.2.size)
  have hww : w.heap.size ≤ w1.heap.size := H1.out.2.2.size
  obtain ⟨i0, hi0, hzz, hsz, hby⟩ := Try.infoI
  clear hW0 hlo hhi hbw hE1 hn1 hv'
  have hlen : (spanY (okE L) ⟨lo.k, lo.n, lo.s, 1⟩ ⟨hi.k, hi.n, hi.s, 60⟩).length ≤ 16 := by
    unfold spanY
    have h1 := (List.takeWhile_prefix (l := (okE L).drop (posE (okE L) ⟨lo.k, lo.n, lo.s, 1⟩)) fun c => decide (cmpE c ⟨hi.k, hi.n, hi.s, 60⟩ ≤ 0)).length_le
    have h2 := okE_len L
    rw [List.length_drop] at h1
    omega
  refine wpIn_rangeFunc_ownH (n := 6) rfl (by omega) (gf := 51) (lb := #[.pointer (some ⟨w1.heap.size + 1 + 1, 0, none⟩), .pointer (some ⟨w1.heap.size + 1 + 1 + 1, 0, none⟩), .pointer (some ⟨w1.heap.size + 1 + 1 + 2, 0, none⟩)]) rfl trivial (enters_of Try.func51 (by kernel_rfl) rfl)
    (span_stops 5 (by omega) W0.heap.size (w1.heap.size + 1) (w1.heap.size + 1 + 1) w1.heap.size a1 c1 (okE L) ⟨lo.k, lo.n, lo.s, 1⟩ ⟨hi.k, hi.n, hi.s, 60⟩ (okE_asc L) (by have := okE_len L; omega) hc1 W0 rfl hSp)
    (fun h k => h.trans k) (fun W l o o' hl _ _ _ => ⟨rfl, rfl, rfl, by simp, fun k hk _ => World.putObj_heap_other (by omega)⟩) (Below.refl _ _) (fun _ => rfl)
    (fun pre W => (∃ v, Boxed W (w1.heap.size + 1) 30 v ∧ W.ownsRow W0.heap.size 3 1 v (pre.map AEnt.id).length ((pre.map AEnt.id).map (Value.int .i64)) ∧ True) ∧ Below w.heap.size w W ∧ W0.heap.size ≤ W.heap.size)
    (fun _ _ _ => False)
    (OwnFrom.and (Own.from (holdsRow_own W0.heap.size (w1.heap.size + 1) 30 3 1 (fun pre : List AEnt => (pre.map AEnt.id).length) (fun pre : List AEnt => (pre.map AEnt.id).map (Value.int .i64)) (fun _ _ => True)) _) (OwnFrom.and (ownFrom_below (Nat.le_refl _) (by omega)) (fun _ _ _ _ hs hg _ => Nat.le_trans hs hg.size)))
    (fun _ _ _ _ _ hs _ _ => hs)
    ⟨⟨_, hbx, World.ownsRow_nil _ _ _ _, trivial⟩, hBW, Nat.le_refl _⟩
    (fun c a' W => ∃ Bx, W0.heap.size ≤ Bx ∧ OneE Bx c W ∧ a' = { tmps := #[.slice a L.length cap, .agg #[.int .i64 lo.k, .int .i64 lo.n, .string lo.s], .agg #[.int .i64 hi.k, .int .i64 hi.n, .string hi.s], undef, .pointer (some ⟨w.heap.size, 0, none⟩), .pointer (some ⟨w.heap.size + 1, 0, none⟩), .slice none 0 0, .pointer (some ⟨w1.heap.size, 0, none⟩), .bool (indexOk L), .pointer (some ⟨w1.heap.size + 1, 0, none⟩), .pointer (some ⟨Bx, 0, none⟩), .tuple #[.agg #[.slice a1 (okE L).length c1, .func (.func 47) #[] #[]], .bool (indexOk L)], .slice a L.length cap, .tuple #[.agg #[.slice a1 (okE L).length c1, .func (.func 47) #[] #[]], .bool (indexOk L)], .agg #[.slice a1 (okE L).length c1, .func (.func 47) #[] #[]], .bool (indexOk L), .agg #[.int .i64 lo.k, .int .i64 lo.n, .string lo.s], .agg #[.int .i64 lo.k, .int .i64 lo.n, .string lo.s, .int .i64 1], .agg #[.int .i64 hi.k, .int .i64 hi.n, .string hi.s], .agg #[.int .i64 hi.k, .int .i64 hi.n, .string hi.s, .int .i64 60], .func (.func 51) #[] #[.pointer (some ⟨w1.heap.size + 1 + 1, 0, none⟩), .pointer (some ⟨w1.heap.size + 1 + 1 + 1, 0, none⟩), .pointer (some ⟨w1.heap.size + 1 + 1 + 2, 0, none⟩)], .agg #[.int .i64 c.k, .int .i64 c.n, .string c.s, .int .i64 c.id], undef, undef, undef, undef, undef, undef], defers := [] })
    (fun c a' => by
      rintro _ X Y row ⟨Bx, hBx, hX, ha⟩ hg hrow
      exact ⟨Bx, hBx, hX.kept hg (fun e' => by obtain ⟨_, o, ho, hc⟩ := hrow Bx e'.symm; rw [show X.heap[Bx]? = _ from hX] at ho; cases ho; cases hc), ha⟩) ?assign ?body ?done ?stop
  case assign =>
    rintro l pre c W K ⟨⟨v, hv, hrow, _⟩, hB, hz⟩ hK
    unfold encE
    gi_wp2
    exact hK _ _ ((KeepsOthers.alloc _ _).from _) (But.of ((Below.refl _ W).alloc (Nat.le_refl _) _) hz) ⟨⟨v, hv.alloc _, hrow.alloc _, trivial⟩, hB.alloc hB.size _, by simp; omega⟩ ⟨W.heap.size, hz, OneE.new W c, rfl⟩
  case body =>
    rintro l pre c a' W hl ⟨r, hr⟩ ⟨⟨v, hv, hrow, _⟩, hB, hz⟩ ⟨Bx, hBx, hX, rfl⟩ hlt
    have hc := hv.cell
    have hid : W.cell? ⟨Bx, 3, none⟩ = some (.int .i64 c.id) := by simp [World.cell?, show W.heap[Bx]? = _ from hX]
    have hpl : pre.length ≤ 16 := by omega
    have hby6 : ((pre.map AEnt.id).length + 1) * i0.bytes ≤ 140737488355328 := by
      have : ((pre.map AEnt.id).length + 1) * i0.bytes ≤ 2097152 * 128 := Nat.mul_le_mul (by simp; omega) hby
      omega
    have hzq : w1.heap.size + 1 < W.heap.size := by omega
    gi_wp2_with (gi_at_builtin; refine wpListIn_append_own _ rfl _ _ 30 rfl W0.heap.size 3 i0 (.int .i64 0) 1 i0.bytes Try.underlying30 hi0 hzz hsz rfl rfl (by decide) _ _ _ rfl (hrow.alloc _) ⟨W.heap.size, 0, none⟩ 1 1 [.int .i64 c.id] rfl rfl (cell_one_new _ _ _) (by simp [Value.oneCell']) (by unfold maxLen; simp; omega) hby6 (by simp; omega) ?_; intro v' w7 hown' hgrow _; obtain ⟨g', cap', rfl⟩ := ownsRow_succ hown'; have hv1 : Boxed w7 (w1.heap.size + 1) 30 v := (hv.alloc _).kept hgrow (hv.not_row (by decide) hrow); have hc1 := hv1.cell; have hf1 := hv1.frozen)
    have hg7 : (W.alloc (.cells #[.int .i64 c.id] 3)).grownBy w7 v.ownBlock := hgrow
    clear hgrow
    have hb7 : Below W0.heap.size W w7 := ((Below.refl _ W).alloc hz _).grown hg7 (by simp; omega) (fun j hj => (World.ownsRow.lt hrow j hj).1)
    have hk7 : KeepsOthers W w7 := (KeepsOthers.alloc W _).trans (KeepsOthers.of_grownBy hg7 fun j o ej hj => by
      rcases (hrow.alloc (.cells #[.int .i64 c.id] 3)).2 with ⟨rfl, _⟩ | ⟨g, cap, cur, rfl, _, hgb, _⟩
      · simp [Value.ownBlock] at ej
      · obtain rfl : g = j := by simpa [Value.ownBlock] using ej
        rw [hgb] at hj; cases hj; rfl)
    have hr7 := hown'.kept (grownBy_setCell' w7 (w1.heap.size + 1) (.slice (some ⟨g', 0, none⟩) ((pre.map AEnt.id).length + 1) cap')) (.inr (hv1.not_row (by decide) hown').symm)
    have hv7 := hv1.set (.slice (some ⟨g', 0, none⟩) ((pre.map AEnt.id).length + 1) cap')
    simp only [List.length_map] at hr7 hv7
    refine ⟨(hk7.trans (KeepsOthers.setCell _ _ _)).from _, (But.of hb7 (Nat.le_refl _)).set _ _, ⟨_, hv7, ?_, trivial⟩, (hB.trans (hb7.mono (by omega))).setCell (p := ⟨w1.heap.size + 1, 0, none⟩) (by simp; omega) _, ?_⟩
    · simpa using hr7
    · have := hb7.size
      simp only [World.setCell]
      simpa using Nat.le_trans hz this
  case done =>
    rintro D ys W hD rfl ⟨⟨v, hv, hrow, _⟩, hB, hz⟩ hK
    have hc := hv.cell
    gi_wp2
    refine ⟨by simp, .inl ⟨_, _, rfl, run_takeDeferred hK, ?_⟩⟩
    refine ⟨_, results_tmp rfl _ _ _, v, rfl, ?_, hB.trans (belowK_b (w := w) (Nat.le_refl _) W D _ _ (by omega) hK rfl rfl)⟩
    have h := ownsRow_putObj hrow (.deferred none) hK rfl
    have hsp : spanL lo hi L = (spanY (okE L) ⟨lo.k, lo.n, lo.s, 1⟩ ⟨hi.k, hi.n, hi.s, 60⟩).map AEnt.id := by
      unfold spanL spanY spanIn okE
      cases hI : indexOk L
      · rfl
      · rw [if_pos rfl, if_pos rfl, span_eq hI]
    rw [hsp]
    exact OwnI.mono h (by omega)
  case stop =>
    rintro D c pre W _ _ h _
    exact h.elim

end Go.Proofs.Ytgjhmpgofmmniaa

/- The contract of impl.IndexFind, over the seat's translation. -/
namespace Go.Proofs.Ytgjhmpgofmmniaa
open Go.RowKit

set_option maxRecDepth 100000 in
set_option maxHeartbeats 1000000 in
theorem impl_find (a : Option Addr) (cap : Nat) (L : List AEnt) (x : AEnt) (w : World) (hL : EntsAt w a L) (h0 : a = none → cap = 0) (hf : ∀ c ∈ L, c.fit) (hm : L.length ≤ 1048576) :
    Calls Try.prog 12 #[.slice a L.length cap, .agg #[.int .i64 x.k, .int .i64 x.n, .string x.s]] w
      fun e w' => ∃ v, e = .returned v ∧ OwnI w.heap.size v (spanL x x L) w' ∧ Below w.heap.size w w' := by
  have bA : Below w.heap.size w (w.alloc (.cells #[.int .i64 x.k, .int .i64 x.n, .string x.s] 27)) := (Below.refl _ _).alloc (Nat.le_refl _) _
  have HA : Hid (EntsAt _ a L ∧ Below w.heap.size w _) := ⟨hL.keep bA, bA⟩
  have x0 := (Box.start w [.int .i64 x.k, .int .i64 x.n, .string x.s] 27).three
  clear bA hL
  go_enter Try.func12, Try.ntmps12
  go_wp2_with fail
  refine (impl_span a cap L x x _ HA.out.1 h0 hf hm).mono ?_
  rintro e w1 ⟨v, rfl, hv, hb⟩
  have HF : Hid (OwnI w.heap.size v (spanL x x L) w1 ∧ Below w.heap.size w w1) := ⟨hv.mono (by simp), HA.out.2.trans (hb.mono (by simp))⟩
  clear hv hb HA
  go_wp2_with fail
  go_ret
  exact ⟨_, rfl, HF.out⟩

end Go.Proofs.Ytgjhmpgofmmniaa

/- The contract of impl.IndexPut, over the seat's translation. -/
namespace Go.Proofs.Ytgjhmpgofmmniaa
open Go.RowKit

set_option maxRecDepth 100000 in
set_option maxHeartbeats 2000000 in
theorem impl_put (a : Option Addr) (cap : Nat) (L : List AEnt) (x : AEnt) (w : World) (hL : EntsAt w a L) (h0 : a = none → cap = 0) (hf : ∀ c ∈ L, c.fit) (hx : x.fit) (hm : L.length ≤ 1048576) :
    Calls Try.prog 21 #[.slice a L.length cap, .agg #[.int .i64 x.k, .int .i64 x.n, .string x.s, .int .i64 x.id]] w
      fun e w' => ∃ v, e = .returned (.tuple #[v, .bool (putOk L x)]) ∧ RowE w.heap.size v (putL L x) w' ∧ Below w.heap.size w w' := by
  have hm' : L.length ≤ maxLen := by unfold maxLen; omega
  have bA : Below w.heap.size w (w.alloc (.cells #[.int .i64 x.k, .int .i64 x.n, .string x.s, .int .i64 x.id] 29)) := (Below.refl _ _).alloc (Nat.le_refl _) _
  have LA : Hid (EntsAt (w.alloc (.cells #[.int .i64 x.k, .int .i64 x.n, .string x.s, .int .i64 x.id] 29)) a L) := hL.keep bA
  have hX := Box.start w [.int .i64 x.k, .int .i64 x.n, .string x.s, .int .i64 x.id] 29
  have HA : Hid (Box w.heap.size [.int .i64 x.k, .int .i64 x.n, .string x.s, .int .i64 x.id] (w.alloc (.cells #[.int .i64 x.k, .int .i64 x.n, .string x.s, .int .i64 x.id] 29)) ∧ Below w.heap.size w (w.alloc (.cells #[.int .i64 x.k, .int .i64 x.n, .string x.s, .int .i64 x.id] 29))) := ⟨hX, bA⟩
  clear bA hL hX
  go_enter Try.func21, Try.ntmps21
  go_wp2_with fail
  refine (entries_of a cap L _ LA.out h0 hf hm').mono ?_
  rintro e w1 ⟨v, rfl, hv, hb⟩
  have hv' : OwnE w.heap.size v (okE L) w1 := hv.mono (by simp)
  have HX : Hid (Box w.heap.size [.int .i64 x.k, .int .i64 x.n, .string x.s, .int .i64 x.id] w1 ∧ Below w.heap.size w w1) := ⟨HA.out.1.next hb, HA.out.2.trans (hb.mono (by simp))⟩
  obtain ⟨a1, c1, hV, -⟩ := hv'.slice
  subst hV
  have b1 : Below w1.heap.size w1 (w1.alloc (.cells #[.slice a1 (okE L).length c1, .func (.func 47) #[] #[]] 49)) := (Below.refl _ _).alloc (Nat.le_refl _) _
  have hS := sbox_box w1 (.slice a1 (okE L).length c1) (.func (.func 47) #[] #[]) 49
  have hlt : ∀ a n c g, Value.slice a1 (okE L).length c1 = .slice a n c → a = some ⟨g, 0, none⟩ → g < w1.heap.size := fun a n c g h e => by
    rcases hv'.form with ⟨h', _⟩ | ⟨g', c', h', _, hl, _⟩
    · rw [(Value.slice.inj h).1.symm, (Value.slice.inj h').1] at e; cases e
    · rw [(Value.slice.inj h).1.symm, (Value.slice.inj h').1] at e; cases e; exact hl
  have H1 : Hid ((OwnE w.heap.size (.slice a1 (okE L).length c1) (okE L) (w1.alloc (.cells #[.slice a1 (okE L).length c1, .func (.func 47) #[] #[]] 49)) ∧ SBox w1.heap.size (.slice a1 (okE L).length c1) (.func (.func 47) #[] #[]) (w1.alloc (.cells #[.slice a1 (okE L).length c1, .func (.func 47) #[] #[]] 49)) ∧ Below w.heap.size w (w1.alloc (.cells #[.slice a1 (okE L).length c1, .func (.func 47) #[] #[]] 49)) ∧ w.heap.size ≤ w1.heap.size) ∧ ∀ a n c g, Value.slice a1 (okE L).length c1 = .slice a n c → a = some ⟨g, 0, none⟩ → g < w1.heap.size) :=
    ⟨⟨hv'.next b1, hS, HX.out.2.trans (b1.mono HX.out.2.size), HX.out.2.size⟩, hlt⟩
  have HXA : Hid (Box w.heap.size [.int .i64 x.k, .int .i64 x.n, .string x.s, .int .i64 x.id] (w1.alloc (.cells #[.slice a1 (okE L).length c1, .func (.func 47) #[] #[]] 49))) := HX.out.1.next b1
  have x1 := HXA.out.four
  clear hb hv hv' LA HA b1 hlt
  cases hI : indexOk L
  · have HI : Hid (indexOk L = false) := hI
    go_wp2_with fail
    go_ret2
    have hP : putOk L x = false := by rw [putOk, HI.out]; rfl
    exact ⟨.slice a1 (okE L).length c1, by rw [hP]; rfl, by rw [putL, hP]; exact H1.out.1.1.row, H1.out.1.2.2.1⟩
  have HI : Hid (indexOk L = true) := hI
  have HO : Hid (okE L = L) := by show okE L = L; rw [okE, hI]; rfl
  go_wp2_with fail
  refine (entry_ok x _ hx).mono ?_
  rintro e w2 ⟨rfl, hb⟩
  have H2 : Hid (OwnE w.heap.size (.slice a1 (okE L).length c1) (okE L) w2 ∧ SBox w1.heap.size (.slice a1 (okE L).length c1) (.func (.func 47) #[] #[]) w2 ∧ Below w.heap.size w w2 ∧ w1.heap.size < w2.heap.size) :=
    ⟨H1.out.1.1.next hb, sbox_next H1.out.1.2.1 (by simp) hb, H1.out.1.2.2.1.trans (hb.mono (by have := H1.out.1.2.2.2; rw [size_alloc]; omega)), by have := hb.size; rw [size_alloc] at this; omega⟩
  have x2 := (HXA.out.next hb).four
  have s2 := H2.out.2.1
  clear hb x1 hS
  cases hk : x.ok
  · have HK : Hid (x.ok = false) := hk
    go_wp2_with fail
    go_ret2
    have hP : putOk L x = false := by rw [putOk, HK.out]; simp
    exact ⟨.slice a1 (okE L).length c1, by rw [hP]; rfl, by rw [putL, hP]; exact H2.out.1.row, H2.out.2.2.1⟩
  have HK : Hid (x.ok = true) := hk
  by_cases hl : (okE L).length < 16
  rotate_left
  · have hlb : decide ((okE L).length < 16) = false := decide_eq_false hl
    have hlc : decide (((okE L).length : Int) < 16) = false := decide_eq_false (by omega)
    have HL : Hid (¬ (okE L).length < 16) := hl
    clear hl
    go_wp2_with fail
    go_ret2
    have hP : putOk L x = false := by
      have h := HL.out
      rw [HO.out] at h
      rw [putOk, decide_eq_false h]
      simp
    exact ⟨.slice a1 (okE L).length c1, by rw [hP]; rfl, by rw [putL, hP]; exact H2.out.1.row, H2.out.2.2.1⟩
  have hlb : decide ((okE L).length < 16) = true := decide_eq_true hl
  have hlc : decide (((okE L).length : Int) < 16) = true := decide_eq_true (by omega)
  have HL : Hid ((okE L).length < 16) := hl
  clear hl
  go_wp2_with fail
  refine (put_entries w1.heap.size w.heap.size _ (okE L) x _ H2.out.2.1 H2.out.1 H2.out.2.2.2 H1.out.1.2.2.2 H1.out.2 (okE_asc L) (by have := HL.out; omega)).mono ?_
  rintro e w3 ⟨rfl, v3, hS3, hR3, hz3, hb3⟩
  obtain ⟨a3, n3, c3, hV⟩ : ∃ a3 n3 c3, v3 = .slice a3 n3 c3 := by obtain ⟨a3, c3, h, -⟩ := hR3.slice; exact ⟨a3, _, c3, h⟩
  subst hV
  have HF : Hid (RowE w.heap.size (.slice a3 n3 c3) (putE (okE L) x) w3 ∧ Below w.heap.size w w3) := ⟨hR3, H2.out.2.2.1.trans hb3⟩
  have hP : Hid (putOk L x = !(thereE (okE L) x)) := by
    show putOk L x = _
    have h := HL.out
    rw [HO.out] at h ⊢
    rw [putOk, HI.out, HK.out, decide_eq_true h]
    simp
  have hQ : Hid (putL L x = putE (okE L) x) := by
    show putL L x = _
    rw [putL, hP.out, putE, HO.out]
    cases thereE L x <;> rfl
  clear hR3 hb3 H1 H2 s2 x2 hlb
  go_wp2_with fail
  go_ret2
  exact ⟨.slice a3 n3 c3, by rw [hP.out]; rfl, by rw [hQ.out]; exact HF.out.1, HF.out.2⟩

end Go.Proofs.Ytgjhmpgofmmniaa

/- The contract of spec.IndexPut, over the seat's translation. -/
namespace Go.Proofs.Ytgjhmpgofmmniaa
open Go.RowKit

theorem ins_fit {L : List AEnt} {x : AEnt} (hf : ∀ c ∈ L, c.fit) (hx : x.fit) : ∀ c ∈ insE L x, c.fit := fun c hc => by
  unfold insE at hc
  rcases List.mem_append.1 hc with h | h
  · exact hf c (List.mem_of_mem_take h)
  · rcases List.mem_cons.1 h with h | h
    · rw [h]; exact hx
    · exact hf c (List.mem_of_mem_drop h)

set_option maxRecDepth 100000 in
set_option maxHeartbeats 2000000 in
theorem spec_put (a : Option Addr) (cap : Nat) (L : List AEnt) (x : AEnt) (w : World) (hL : EntsAt w a L) (h0 : a = none → cap = 0) (hc : L.length ≤ cap) (hf : ∀ c ∈ L, c.fit) (hx : x.fit) (hm : L.length ≤ 1048576) :
    Calls Try.prog 22 #[.slice a L.length cap, .agg #[.int .i64 x.k, .int .i64 x.n, .string x.s, .int .i64 x.id]] w
      fun e w' => ∃ v, e = .returned (.tuple #[v, .bool (putOk L x)]) ∧ OwnE w.heap.size v (putL L x) w' ∧ Below w.heap.size w w' := by
  have hm' : L.length ≤ maxLen := by unfold maxLen; omega
  have bA : Below w.heap.size w (w.alloc (.cells #[.int .i64 x.k, .int .i64 x.n, .string x.s, .int .i64 x.id] 29)) := (Below.refl _ _).alloc (Nat.le_refl _) _
  have nB := Box.start w [.int .i64 x.k, .int .i64 x.n, .string x.s, .int .i64 x.id] 29
  cases hI : indexOk L
  · have hP : putOk L x = false := by rw [putOk, hI]; rfl
    have hQ : putL L x = [] := by rw [putL, hP, if_neg (by decide), okE, hI]; rfl
    rw [hP, hQ]
    have hLA := hL.keep bA
    have HB : Hid (Below w.heap.size w (w.alloc (.cells #[.int .i64 x.k, .int .i64 x.n, .string x.s, .int .i64 x.id] 29))) := bA
    clear bA hL nB hP hQ
    go_enter Try.func22, Try.ntmps22
    go_wp2_with fail
    refine (spec_index _ _ _ _ hLA hf hm').mono ?_
    rintro e w1 ⟨rfl, hb⟩
    rw [hI]
    have hB : Hid (Below w.heap.size w w1) := HB.out.trans (hb.mono (by simp))
    clear hb hLA HB
    have hM := OwnE.made w.heap.size w1 hB.out.size
    go_wp2_with fail
    go_ret2
    exact ⟨_, rfl, hM, hB.out.alloc hB.out.size _⟩
  have hOk : Hid (indexOk L = true) := hI
  have hLA : Hid (EntsAt _ a L) := hL.keep bA
  have HB : Hid (Below w.heap.size w (w.alloc (.cells #[.int .i64 x.k, .int .i64 x.n, .string x.s, .int .i64 x.id] 29)) ∧ Box w.heap.size [.int .i64 x.k, .int .i64 x.n, .string x.s, .int .i64 x.id] (w.alloc (.cells #[.int .i64 x.k, .int .i64 x.n, .string x.s, .int .i64 x.id] 29))) := ⟨bA, nB⟩
  clear bA hL nB
  go_enter Try.func22, Try.ntmps22
  go_wp2_with fail
  refine (spec_index _ _ _ _ hLA.out hf hm').mono ?_
  rintro e w1 ⟨rfl, hb⟩
  rw [hI]
  have hB1 : Hid (Below w.heap.size w w1) := HB.out.1.trans (hb.mono (by simp))
  have hL1 : Hid (EntsAt w1 a L) := hLA.out.keep hb
  have hX := (HB.out.2.next hb).four
  clear hb hLA HB
  go_wp2_with fail
  refine (l8_put a cap L x _ hL1.out h0 hc hm).mono ?_
  rintro e w2 ⟨v, rfl, hv, hb⟩
  obtain ⟨a2, c2, hV, -, hE2⟩ := hv.slice
  subst hV
  have hB2 : Hid (Below w.heap.size w w2) := hB1.out.trans (hb.mono hB1.out.size)
  have hL2 : Hid (EntsAt w2 a L) := hL1.out.keep hb
  have hO2 : Hid (OwnE w.heap.size (.slice a2 (insE L x).length c2) (insE L x) w2) := hv.mono hB1.out.size
  clear hb hB1 hL1 hX hv
  go_wp2_with fail
  refine (spec_index a2 c2 (insE L x) _ hE2 (ins_fit hf hx) (by rw [ins_len]; unfold maxLen; omega)).mono ?_
  rintro e w3 ⟨rfl, hb⟩
  have hB3 : Hid (Below w.heap.size w w3) := hB2.out.trans (hb.mono hB2.out.size)
  have hL3 : Hid (EntsAt w3 a L) := hL2.out.keep hb
  have hO3 : Hid (OwnE w.heap.size (.slice a2 (insE L x).length c2) (insE L x) w3) := hO2.out.next hb
  have hP : Hid (indexOk (insE L x) = putOk L x) := by
    show indexOk (insE L x) = putOk L x
    rw [ins_ok hOk.out, putOk, hOk.out, Bool.true_and]
  clear hb hB2 hL2 hO2 hE2 hI
  rw [hP.out]
  cases hT : putOk L x
  · have hQ : Hid (putL L x = L) := by show putL L x = L; rw [putL, hT, if_neg (by decide), okE, hOk.out]; rfl
    clear hO3
    go_wp2_with (at_builtin; refine append_ents rfl _ _ rfl w.heap.size _ [] rfl (OwnE.made w.heap.size w3 hB3.out.size) a _ cap L rfl rfl (hL3.out.keep ((Below.refl _ _).alloc (Nat.le_refl _) _)) h0 (by simp; omega) (by have := hB3.out.size; simp; omega) ?_; intro a4 n4 c4 w4 ho hg hn hc')
    have hn' : n4 = L.length := by simpa using hn
    subst hn'
    have hB4 : Hid (Below w.heap.size w w4) := (hB3.out.alloc hB3.out.size _).trans hg
    have ho4 : Hid (OwnE w.heap.size (.slice a4 L.length c4) L w4) := ho
    clear ho hg
    go_ret2
    exact ⟨.slice a4 L.length c4, by rw [hT]; rfl, by rw [hQ.out]; exact ho4.out, hB4.out⟩
  · have hQ : Hid (putL L x = insE L x) := by show putL L x = insE L x; rw [putL, hT, if_pos rfl]
    go_wp2_with fail
    go_ret2
    exact ⟨.slice a2 (insE L x).length c2, by rw [hT]; rfl, by rw [hQ.out]; exact hO3.out, hB3.out⟩

end Go.Proofs.Ytgjhmpgofmmniaa

/- Facts on lists in order: what is put in and taken out; what has one value. -/
namespace Go.Proofs.Ytgjhmpgofmmniaa
open Go.RowKit

theorem ins_at (L : List AEnt) (x : AEnt) (hA : Asc L) : (insE L x)[posE L x]? = some x := by
  rw [ins_get L x _ (isAt_pos hA x).1, if_neg (by omega), if_pos rfl]

/-- What is put in and taken out again is as it was. -/
theorem off_ins {L : List AEnt} (hA : Asc L) {x : AEnt} (hT : thereE L x = false) : offE (insE L x) x = L := by
  have hp := (isAt_pos hA x).1
  have hI : Asc (insE L x) := (ascB_iff _).1 (by rw [ins_asc hA, hT]; rfl)
  have hx := ins_at L x hA
  rw [offE, at_there hI hx, if_pos rfl, ← at_pos hI hx]
  have hl : (L.take (posE L x)).length = posE L x := by rw [List.length_take, Nat.min_eq_left hp]
  have h1 : (insE L x).take (posE L x) = L.take (posE L x) := by
    unfold insE
    rw [List.take_append_of_le_length (by omega), List.take_of_length_le (by omega)]
  have h2 : (insE L x).drop (posE L x + 1) = L.drop (posE L x) := by
    unfold insE
    rw [List.drop_append, List.drop_of_length_le (by omega), List.nil_append, hl, show posE L x + 1 - posE L x = 1 by omega]
    rfl
  rw [h1, h2, List.take_append_drop]

/-- What is taken out and put in again is as it was. -/
theorem ins_off {L : List AEnt} (hA : Asc L) {x : AEnt} (hT : thereE L x = true) : insE (offE L x) x = L := by
  have hx := (thereE_iff x).1 hT
  have hp : posE L x < L.length := (List.getElem?_eq_some_iff.1 hx).1
  have hl : (L.take (posE L x)).length = posE L x := by rw [List.length_take]; omega
  have hO : offE L x = L.take (posE L x) ++ L.drop (posE L x + 1) := by rw [offE, hT, if_pos rfl]
  have hq : posE (offE L x) x = posE L x := by
    rw [hO]
    refine tw_len (p := fun c => lessE c x) _ _ (by simp; omega) (fun t c ht hc => ?_) (fun c hc => ?_)
    · rw [List.getElem?_append_left (by omega), List.getElem?_take, if_pos ht] at hc
      exact hA.lt ht hc hx
    · rw [List.getElem?_append_right (by omega), hl, Nat.sub_self, List.getElem?_drop] at hc
      exact lessE_asym _ _ (hA.lt (by omega) hx hc)
  unfold insE
  rw [hq, hO, List.take_append_of_le_length (by omega), List.take_of_length_le (by omega), List.drop_append, List.drop_of_length_le (by omega), List.nil_append, hl, Nat.sub_self, List.drop_zero]
  have hd : x :: L.drop (posE L x + 1) = L.drop (posE L x) := by
    rw [List.drop_eq_getElem_cons hp]
    congr 1
    rw [List.getElem?_eq_getElem hp] at hx
    exact (Option.some.inj hx).symm
  rw [hd, List.take_append_drop]

/-- By what is put in the entries of its value grow by one. -/
theorem span_ins (L : List AEnt) (x : AEnt) : (spanIn x x (insE L x)).length = (spanIn x x L).length + 1 := by
  unfold spanIn insE
  have h := congrArg (fun l => (l.filter (inSpan x x)).length) (List.take_append_drop (posE L x) L)
  simp only [List.filter_append, List.length_append] at h
  have hx : inSpan x x x = true := by rw [inSpan_self, eqV_refl]
  simp only [List.length_map, List.filter_append, List.length_append, List.filter_cons, hx, if_true, List.length_cons]
  omega

/-- Of the entries of x's value one alone has x's Id. -/
theorem ids_one {M : List AEnt} (hA : Asc M) {x : AEnt} (hx : M[posE M x]? = some x) : ((spanIn x x M).filter fun i => decide (i = x.id)).length = 1 := by
  have hp : posE M x < M.length := (List.getElem?_eq_some_iff.1 hx).1
  have hM : M = M.take (posE M x) ++ x :: M.drop (posE M x + 1) := by
    have hd : x :: M.drop (posE M x + 1) = M.drop (posE M x) := by
      rw [List.drop_eq_getElem_cons hp]
      congr 1
      rw [List.getElem?_eq_getElem hp] at hx
      exact (Option.some.inj hx).symm
    rw [hd, List.take_append_drop]
  have hl : (M.take (posE M x)).length = posE M x := by rw [List.length_take]; omega
  unfold spanIn
  rw [List.filter_map, List.length_map, List.filter_filter]
  have hq : (fun c : AEnt => ((fun i => decide (i = x.id)) ∘ AEnt.id) c && inSpan x x c) = fun c => eqE c x := by
    funext c
    rw [inSpan_self]
    unfold eqE
    show (decide (c.id = x.id) && eqV c x) = _
    rw [Bool.and_comm]
    rfl
  rw [hq]
  have h1 : (M.take (posE M x)).filter (fun c => eqE c x) = [] := by
    rw [List.filter_eq_nil_iff]
    intro c hc
    obtain ⟨t, ht, rfl⟩ := List.mem_iff_getElem.1 hc
    have hlt : lessE (M.take (posE M x))[t] x = true := by
      refine hA.lt (i := t) (j := posE M x) (by omega) ?_ hx
      rw [List.getElem_take, List.getElem?_eq_getElem (by omega)]
    intro he
    rw [eqE_ext he, lessE_irr] at hlt
    cases hlt
  have h2 : (M.drop (posE M x + 1)).filter (fun c => eqE c x) = [] := by
    rw [List.filter_eq_nil_iff]
    intro c hc
    obtain ⟨t, ht, rfl⟩ := List.mem_iff_getElem.1 hc
    rw [List.length_drop] at ht
    have hlt : lessE x (M.drop (posE M x + 1))[t] = true := by
      refine hA.lt (i := posE M x) (j := posE M x + 1 + t) (by omega) hx ?_
      rw [List.getElem_drop, List.getElem?_eq_getElem (by omega)]
    intro he
    rw [eqE_ext he, lessE_irr] at hlt
    cases hlt
  generalize M.drop (posE M x + 1) = B at h2 hM
  generalize M.take (posE M x) = A at h1 hM
  rw [hM, List.filter_append, List.filter_cons, h1, h2, eqE_refl]
  rfl

end Go.Proofs.Ytgjhmpgofmmniaa
