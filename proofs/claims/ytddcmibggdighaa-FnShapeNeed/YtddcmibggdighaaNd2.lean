/- A column that comes behind all, and its value: (addChange).cols and .vals, over the seat's translation. -/
import Derived.Test.YtddcmibggdighaaNd1
import Derived.Test.YtddcmibggdighaaDrV3
import Derived.Deep.RegionHeldLaw
namespace Go.Proofs.Ytddcmibggdighaa
open Go.RowKit

/-- append onto a slice of the call's own, as one step of a region that draws. -/
theorem step_append_to {P : Program} {ops : Array Oper} {o : Oper} {a : Act} {w : World} {K : Act → World → Prop} {Q : Exit → Act → World → Prop} {E : Prop}
    (d : Option Tmp) (hd : o.dst = d) (hg : o.guard = none) (s x : Operand) (t : TypeId) (hop : o.op = Op.call { callee := Callee.builtin Builtin.append, args := #[s, x], argTypes := #[t, t] })
    (base : Nat) (e : TypeId) (i : TypeInfo) (z : Value) (size bytes : Nat) (ht : P.underlying t = some (.slice e)) (hi : P.info? e = some i) (hz : i.zero = some z)
    (hsize : i.size = size) (hby : i.bytes = bytes) (hzs : z.cells.size = size) (hsz : 0 < size)
    (v : Value) (n : Nat) (xs : List Value) (hs : a.eval s = v) (hown : w.ownsRow base e size v n xs)
    (ad : Addr) (m c : Nat) (news : List Value) (hx : a.eval x = .slice (some ad) m c) (hl : news.length = m * size) (hnews : ∀ j u, news[j]? = some u → w.cell? (ad.add j) = some u) (h1 : ∀ u ∈ news, u.oneCell' = true)
    (h63 : n + m ≤ maxLen) (hbytes : (n + m) * bytes ≤ 140737488355328) (hbase : base ≤ w.heap.size)
    (hK : ∀ v' w', w'.ownsRow base e size v' (n + m) (xs ++ news) → w.grownBy w' v.ownBlock → (v' = .slice none 0 0 ↔ v = .slice none 0 0 ∧ m = 0) → K (a.put d v') w') :
    if Region.wanted o (yielded ops a.tmps) = true then Oper.wp P o a w K Q else E := by
  subst hd
  have hw : Region.wanted o (yielded ops a.tmps) = true := by simp [Region.wanted, hg]
  rw [if_pos hw]
  obtain ⟨v', w', hr, h2, h3, h4, _⟩ := run_append_own_at (P := P) w base t o.type e i z size bytes ht hi hz hsize hby hzs hsz v n xs hown ad m c news hl hnews h1 h63 hbytes hbase
  unfold Oper.wp
  simp [execOp, hop, resolve, invoke, builtin, hs, hx, hr, Result.andThen]
  exact hK v' w' h2 h3 h4

/-- The box at B holds a column in W, the columns lie beside it, and W lies over w. -/
abbrev AC (w : World) (B : Nat) (c : ACol) (b o : Nat) (L : List ACol) (W : World) : Prop :=
  W.cell? ⟨B, 0, none⟩ = some (.string c.nm) ∧ W.cell? ⟨B, 1, none⟩ = some (.int .i64 c.kd) ∧ W.cell? ⟨B, 2, none⟩ = some (.bool true) ∧ W.cell? ⟨B, 3, none⟩ = some (.bool c.oc) ∧
    W.cell? ⟨B, 4, none⟩ = some (.int .i64 c.k) ∧ W.cell? ⟨B, 5, none⟩ = some (.int .i64 c.n) ∧ W.cell? ⟨B, 6, none⟩ = some (.string c.s) ∧ B < W.heap.size ∧ ColsAt W (some ⟨b, o, none⟩) L ∧ Below w.heap.size w W
theorem ac_next {w : World} {B : Nat} {c : ACol} {b o : Nat} {L : List ACol} {W W' : World} (h : AC w B c b o L W) (hb : Below W.heap.size W W') : AC w B c b o L W' := by
  obtain ⟨h0, h1, h2, h3, h4, h5, h6, h7, h8, h9⟩ := h
  have hc := fun x => (bcell hb).1 B x h7
  exact ⟨(hc _).trans h0, (hc _).trans h1, (hc _).trans h2, (hc _).trans h3, (hc _).trans h4, (hc _).trans h5, (hc _).trans h6, Nat.lt_of_lt_of_le h7 hb.size, h8.keep hb, h9.trans (hb.mono h9.size)⟩
theorem ac_drew {w : World} {B : Nat} {c : ACol} {b o : Nat} {L : List ACol} {W : World} (h : AC w B c b o L W) : AC w B c b o L W.drew := ac_next h (Below.refl _ _).drew
theorem ac_alloc {w : World} {B : Nat} {c : ACol} {b o : Nat} {L : List ACol} {W : World} (h : AC w B c b o L W) (x : Obj) : AC w B c b o L (W.alloc x) := ac_next h (alloc_below _ _)

theorem grown_below {w W W' : World} {row : Option Nat} (h : Below w.heap.size w W) (hg : W.grownBy W' row) (hr : ∀ k, row = some k → w.heap.size ≤ k) : Below w.heap.size w W' := h.grown hg h.size hr
theorem ac_grown {w : World} {B : Nat} {c : ACol} {b o : Nat} {L : List ACol} {W W' : World} {row : Option Nat} (h : AC w B c b o L W) (hg : W.grownBy W' row) (hB : row ≠ some B) (hb : row ≠ some b) (hr : ∀ k, row = some k → w.heap.size ≤ k) : AC w B c b o L W' := by
  obtain ⟨h0, h1, h2, h3, h4, h5, h6, h7, h8, h9⟩ := h
  have hc : ∀ x v, W.cell? ⟨B, x, none⟩ = some v → W'.cell? ⟨B, x, none⟩ = some v := fun x v hv => hg.cell hv (fun e => hB e.symm)
  exact ⟨hc _ _ h0, hc _ _ h1, hc _ _ h2, hc _ _ h3, hc _ _ h4, hc _ _ h5, hc _ _ h6, Nat.lt_of_lt_of_le h7 hg.size, cols_grown h8 hg hb, grown_below h9 hg hr⟩

/-- What the region leaves: the columns with one behind them. -/
def AX (w : World) (L : List ACol) (c : ACol) (v : Value) (W : World) : Prop := (∃ base, w.heap.size ≤ base ∧ OwnCols base v (L ++ [c]) W) ∧ Below w.heap.size w W
theorem ax_made {w W W' : World} {base : Nat} {L : List ACol} {c : ACol} {v v' : Value} (hw : w.heap.size ≤ base) (hb : Below w.heap.size w W) (hown : W.ownsRow base 31 7 v L.length (L.flatMap ACol.cells))
    (hown' : W'.ownsRow base 31 7 v' (L.length + 1) (L.flatMap ACol.cells ++ c.cells)) (hg : W.grownBy W' v.ownBlock) (hn : v' = .slice none 0 0 ↔ v = .slice none 0 0 ∧ 1 = 0) : AX w L c v' W' :=
  ⟨⟨base, hw, own_snoc hown' (fun e => by have := (hn.1 e).2; omega)⟩, grown_below hb hg (fun k hk => Nat.le_trans hw (World.ownsRow.lt hown k hk).1)⟩
theorem own_ne {W : World} {base x : Nat} {v : Value} {n : Nat} {xs : List Value} {e : TypeId} {s : Nat} (h : W.ownsRow base e s v n xs) (hx : x < base) : v.ownBlock ≠ some x := fun e => by have := (World.ownsRow.lt h x e).1; omega

set_option maxRecDepth 100000 in
set_option maxHeartbeats 4000000 in
theorem add_cols (c : ACol) (b o cap : Nat) (L : List ACol) (w : World) (hL : ColsAt w (some ⟨b, o, none⟩) L) (hl : L.length ≤ 50) (h1 : 1 ≤ L.length) :
    Calls Try.prog 55 #[.agg #[.string c.nm, .int .i64 c.kd, .bool true, .bool c.oc, .int .i64 c.k, .int .i64 c.n, .string c.s], .slice (some ⟨b, o, none⟩) L.length cap] w fun e w' => ∃ b1 c1, e = .returned (.tuple #[.slice (some ⟨b1, 0, none⟩) (L.length + 1) c1, .bool (c.k != 0)]) ∧ w.heap.size ≤ b1 ∧ ColsAt w' (some ⟨b1, 0, none⟩) (L ++ [{ c with nd := true }]) ∧ Below w.heap.size w w' := by
  have b0 := alloc_below w (.cells #[.string c.nm, .int .i64 c.kd, .bool true, .bool c.oc, .int .i64 c.k, .int .i64 c.n, .string c.s] 81)
  have hx := own7_box w c.nm c.kd true c.oc c.k c.n c.s 81
  have hA : AC w w.heap.size c b o L (w.alloc (.cells #[.string c.nm, .int .i64 c.kd, .bool true, .bool c.oc, .int .i64 c.k, .int .i64 c.n, .string c.s] 81)) := ⟨hx.1, hx.2.1, hx.2.2.1, hx.2.2.2.1, hx.2.2.2.2.1, hx.2.2.2.2.2.1, hx.2.2.2.2.2.2.1, by simp, hL.keep b0, b0⟩
  have HA : Hid (AC w w.heap.size c b o L (w.alloc (.cells #[.string c.nm, .int .i64 c.kd, .bool true, .bool c.oc, .int .i64 c.k, .int .i64 c.n, .string c.s] 81))) := hA
  obtain ⟨i0, hi, hz, hsz, hby⟩ := Try.info31
  have hby0 : (L.length + 1) * i0.bytes ≤ 140737488355328 := by
    have : (L.length + 1) * i0.bytes ≤ 51 * 128 := Nat.mul_le_mul (by omega) hby
    omega
  have hmb : L.length + 1 ≤ maxLen := by unfold maxLen; omega
  clear hx b0 hL hA
  go_enter Try.func55, Try.ntmps55
  go_wp2_with fail
  generalize w.alloc (.cells #[.string c.nm, .int .i64 c.kd, .bool true, .bool c.oc, .int .i64 c.k, .int .i64 c.n, .string c.s] 81) = W0 at *
  have hA := HA.out
  clear HA
  have hbW : b < W0.heap.size := by
    obtain ⟨b', o', e, hlt, _⟩ := hA.2.2.2.2.2.2.2.2.1.at (k := 0) (by omega)
    cases e
    exact hlt
  have hwW : w.heap.size < W0.heap.size := hA.2.2.2.2.2.2.2.1
  go_region_held_law (fun W => AC w w.heap.size c b o L W) (first | assumption | exact ac_drew (by assumption) | exact ac_alloc (by assumption) _ | exact ac_drew (ac_alloc (by assumption) _))
    (first
      | (go_at_call 18; have hS := ‹AC w w.heap.size c b o L _›; refine (clone_cols b o cap L _ hS.2.2.2.2.2.2.2.2.1 (by omega)).mono ?_; rintro e w6 ⟨v6, rfl, hO6, hq6⟩; have hC6 := ac_next hS hq6; clear hS)
      | (have nB : ∀ j u, (ACol.cells ⟨c.nm, c.kd, true, c.oc, c.k, c.n, c.s⟩)[j]? = some u → w6.cell? ((⟨W0.heap.size, 0, none⟩ : Addr).add j) = some u := (fun j u hu => by rw [Addr.add_mid, (bcell hq6).1 _ _ (by simp), ← Addr.add_mid]; exact new_cells W0 ⟨c.nm, c.kd, true, c.oc, c.k, c.n, c.s⟩ 31 j u hu); have hbb := hq6.size; have hzz : W0.heap.size < (W0.alloc (.cells #[.string c.nm, .int .i64 c.kd, .bool true, .bool c.oc, .int .i64 c.k, .int .i64 c.n, .string c.s] 31)).heap.size := (by simp); refine step_append_to (some 11) rfl rfl _ _ 23 rfl (W0.alloc (.cells #[.string c.nm, .int .i64 c.kd, .bool true, .bool c.oc, .int .i64 c.k, .int .i64 c.n, .string c.s] 31)).heap.size 31 i0 _ 7 i0.bytes Try.underlying23 hi hz hsz rfl rfl (by decide) v6 L.length (L.flatMap ACol.cells) rfl hO6.1 ⟨W0.heap.size, 0, none⟩ 1 1 (ACol.cells ⟨c.nm, c.kd, true, c.oc, c.k, c.n, c.s⟩) rfl rfl nB (cells_one _) hmb hby0 hbb ?_; intro v7 w7 hown7 hg7 hn7; (try simp only [Act.put, List.setIfInBounds_toArray, List.set_cons_zero, List.set_cons_succ]); have HX : Hid (AX w L ⟨c.nm, c.kd, true, c.oc, c.k, c.n, c.s⟩ v7 w7) := ax_made (Nat.le_of_lt (Nat.lt_trans hwW hzz)) hC6.2.2.2.2.2.2.2.2.2 hO6.1 hown7 hg7 hn7; have hX7 := ac_grown hC6 hg7 (own_ne hO6.1 (Nat.lt_trans hwW hzz)) (own_ne hO6.1 (Nat.lt_trans hbW hzz)) (fun k hk => Nat.le_trans (Nat.le_of_lt (Nat.lt_trans hwW hzz)) (World.ownsRow.lt hO6.1 k hk).1); clear hown7 hg7 hn7 hO6 hq6 nB hbb hzz)
      | (refine step_append_to (some 11) rfl rfl _ _ 23 rfl W0.heap.size 31 i0 _ 7 i0.bytes Try.underlying23 hi hz hsz rfl rfl (by decide) v6 L.length (L.flatMap ACol.cells) rfl (hO6.1.alloc _) ⟨w6.heap.size, 0, none⟩ 1 1 (ACol.cells ⟨c.nm, c.kd, true, c.oc, c.k, c.n, c.s⟩) rfl rfl (new_cells w6 ⟨c.nm, c.kd, true, c.oc, c.k, c.n, c.s⟩ 31) (cells_one _) hmb hby0 (Nat.le_trans hq6.size (alloc_below _ _).size) ?_; intro v7 w7 hown7 hg7 hn7; (try simp only [Act.put, List.setIfInBounds_toArray, List.set_cons_zero, List.set_cons_succ]); have HX : Hid (AX w L ⟨c.nm, c.kd, true, c.oc, c.k, c.n, c.s⟩ v7 w7) := ax_made (Nat.le_of_lt hwW) (ac_alloc hC6 _).2.2.2.2.2.2.2.2.2 (hO6.1.alloc _) hown7 hg7 hn7; have hX7 := ac_grown (ac_alloc hC6 _) hg7 (own_ne hO6.1 hwW) (own_ne hO6.1 hbW) (fun k hk => Nat.le_trans (Nat.le_of_lt hwW) (World.ownsRow.lt hO6.1 k hk).1); clear hown7 hg7 hn7 hO6 hq6))
  all_goals
    obtain ⟨⟨base, hwb, hO⟩, hbz⟩ := HX.out
    obtain ⟨b7, c7, rfl, hb7, hc7⟩ := hO.cols
    have hb7' : Hid (w.heap.size ≤ b7) := Nat.le_trans hwb hb7
    clear hwb hb7
    have HY : Hid (ColsAt w7 (some ⟨b7, 0, none⟩) (L ++ [⟨c.nm, c.kd, true, c.oc, c.k, c.n, c.s⟩]) ∧ Below w.heap.size w w7) := ⟨hc7, hbz⟩
    clear HX hO hc7 hbz hX7 hC6 hA
    go_wp2_with fail
    go_ret2
    exact ⟨b7, c7, by rw [List.length_append]; rfl, hb7'.out, HY.out.1, HY.out.2⟩

theorem vals_grown {W W' : World} {b o : Nat} {L : List AVal} {row : Option Nat} (h : ValsAt W (some ⟨b, o, none⟩) L) (hg : W.grownBy W' row) (hne : row ≠ some b) : ValsAt W' (some ⟨b, o, none⟩) L := by
  rcases h with h | ⟨b', o', e, hlt, hr⟩
  · exact Or.inl h
  · cases e
    exact Or.inr ⟨b, o, rfl, Nat.lt_of_lt_of_le hlt hg.size, fun i c hc j v hv => hg.cell (hr i c hc j v hv) (fun e => hne e.symm)⟩

/-- The box at B holds a column in W, values lie beside it, and W lies over w. -/
abbrev AV (w : World) (B : Nat) (c : ACol) (b o : Nat) (L : List AVal) (W : World) : Prop :=
  W.cell? ⟨B, 0, none⟩ = some (.string c.nm) ∧ W.cell? ⟨B, 1, none⟩ = some (.int .i64 c.kd) ∧ W.cell? ⟨B, 2, none⟩ = some (.bool true) ∧ W.cell? ⟨B, 3, none⟩ = some (.bool c.oc) ∧
    W.cell? ⟨B, 4, none⟩ = some (.int .i64 c.k) ∧ W.cell? ⟨B, 5, none⟩ = some (.int .i64 c.n) ∧ W.cell? ⟨B, 6, none⟩ = some (.string c.s) ∧ B < W.heap.size ∧ ValsAt W (some ⟨b, o, none⟩) L ∧ Below w.heap.size w W
theorem av_next {w : World} {B : Nat} {c : ACol} {b o : Nat} {L : List AVal} {W W' : World} (h : AV w B c b o L W) (hb : Below W.heap.size W W') : AV w B c b o L W' := by
  obtain ⟨h0, h1, h2, h3, h4, h5, h6, h7, h8, h9⟩ := h
  have hc := fun x => (bcell hb).1 B x h7
  exact ⟨(hc _).trans h0, (hc _).trans h1, (hc _).trans h2, (hc _).trans h3, (hc _).trans h4, (hc _).trans h5, (hc _).trans h6, Nat.lt_of_lt_of_le h7 hb.size, h8.keep hb, h9.trans (hb.mono h9.size)⟩
theorem av_drew {w : World} {B : Nat} {c : ACol} {b o : Nat} {L : List AVal} {W : World} (h : AV w B c b o L W) : AV w B c b o L W.drew := av_next h (Below.refl _ _).drew
theorem av_alloc {w : World} {B : Nat} {c : ACol} {b o : Nat} {L : List AVal} {W : World} (h : AV w B c b o L W) (x : Obj) : AV w B c b o L (W.alloc x) := av_next h (alloc_below _ _)

theorem av_grown {w : World} {B : Nat} {c : ACol} {b o : Nat} {L : List AVal} {W W' : World} {row : Option Nat} (h : AV w B c b o L W) (hg : W.grownBy W' row) (hB : row ≠ some B) (hb : row ≠ some b) (hr : ∀ k, row = some k → w.heap.size ≤ k) : AV w B c b o L W' := by
  obtain ⟨h0, h1, h2, h3, h4, h5, h6, h7, h8, h9⟩ := h
  have hc : ∀ x v, W.cell? ⟨B, x, none⟩ = some v → W'.cell? ⟨B, x, none⟩ = some v := fun x v hv => hg.cell hv (fun e => hB e.symm)
  exact ⟨hc _ _ h0, hc _ _ h1, hc _ _ h2, hc _ _ h3, hc _ _ h4, hc _ _ h5, hc _ _ h6, Nat.lt_of_lt_of_le h7 hg.size, vals_grown h8 hg hb, grown_below h9 hg hr⟩

/-- What the region leaves: the columns with one behind them. -/
def AXV (w : World) (L : List AVal) (c : AVal) (v : Value) (W : World) : Prop := (∃ base, w.heap.size ≤ base ∧ OwnVals base v (L ++ [c]) W) ∧ Below w.heap.size w W
theorem axv_made {w W W' : World} {base : Nat} {L : List AVal} {c : AVal} {v v' : Value} (hw : w.heap.size ≤ base) (hb : Below w.heap.size w W) (hown : W.ownsRow base 29 3 v L.length (L.flatMap AVal.cells))
    (hown' : W'.ownsRow base 29 3 v' (L.length + 1) (L.flatMap AVal.cells ++ c.cells)) (hg : W.grownBy W' v.ownBlock) (hn : v' = .slice none 0 0 ↔ v = .slice none 0 0 ∧ 1 = 0) : AXV w L c v' W' :=
  ⟨⟨base, hw, ownv_snoc hown' (fun e => by have := (hn.1 e).2; omega)⟩, grown_below hb hg (fun k hk => Nat.le_trans hw (World.ownsRow.lt hown k hk).1)⟩
set_option maxRecDepth 100000 in
set_option maxHeartbeats 4000000 in
theorem add_vals (c : ACol) (b o cap : Nat) (L : List AVal) (w : World) (hL : ValsAt w (some ⟨b, o, none⟩) L) (hl : L.length ≤ 50) (h1 : 1 ≤ L.length) :
    Calls Try.prog 56 #[.agg #[.string c.nm, .int .i64 c.kd, .bool true, .bool c.oc, .int .i64 c.k, .int .i64 c.n, .string c.s], .slice (some ⟨b, o, none⟩) L.length cap] w fun e w' => ∃ b1 c1, e = .returned (.slice (some ⟨b1, 0, none⟩) (L.length + 1) c1) ∧ w.heap.size ≤ b1 ∧ ValsAt w' (some ⟨b1, 0, none⟩) (L ++ [⟨c.k, c.n, c.s⟩]) ∧ Below w.heap.size w w' := by
  have b0 := alloc_below w (.cells #[.string c.nm, .int .i64 c.kd, .bool true, .bool c.oc, .int .i64 c.k, .int .i64 c.n, .string c.s] 81)
  have hx := own7_box w c.nm c.kd true c.oc c.k c.n c.s 81
  have hA : AV w w.heap.size c b o L (w.alloc (.cells #[.string c.nm, .int .i64 c.kd, .bool true, .bool c.oc, .int .i64 c.k, .int .i64 c.n, .string c.s] 81)) := ⟨hx.1, hx.2.1, hx.2.2.1, hx.2.2.2.1, hx.2.2.2.2.1, hx.2.2.2.2.2.1, hx.2.2.2.2.2.2.1, by simp, hL.keep b0, b0⟩
  have HA : Hid (AV w w.heap.size c b o L (w.alloc (.cells #[.string c.nm, .int .i64 c.kd, .bool true, .bool c.oc, .int .i64 c.k, .int .i64 c.n, .string c.s] 81))) := hA
  obtain ⟨i0, hi, hz, hsz, hby⟩ := Try.info29
  have hby0 : (L.length + 1) * i0.bytes ≤ 140737488355328 := by
    have : (L.length + 1) * i0.bytes ≤ 51 * 128 := Nat.mul_le_mul (by omega) hby
    omega
  have hmb : L.length + 1 ≤ maxLen := by unfold maxLen; omega
  clear hx b0 hL hA
  go_enter Try.func56, Try.ntmps56
  go_wp2_with fail
  generalize w.alloc (.cells #[.string c.nm, .int .i64 c.kd, .bool true, .bool c.oc, .int .i64 c.k, .int .i64 c.n, .string c.s] 81) = W0 at *
  have hA := HA.out
  clear HA
  have hbW : b < W0.heap.size := by
    obtain ⟨b', o', e, hlt, _⟩ := hA.2.2.2.2.2.2.2.2.1.at (k := 0) (by omega)
    cases e
    exact hlt
  have hwW : w.heap.size < W0.heap.size := hA.2.2.2.2.2.2.2.1
  go_region_held_law (fun W => AV w w.heap.size c b o L W) (first | assumption | exact av_drew (by assumption) | exact av_alloc (by assumption) _ | exact av_drew (av_alloc (by assumption) _))
    (first
      | (go_at_call 57; have hS := ‹AV w w.heap.size c b o L _›; refine (clone_vals b o cap L _ hS.2.2.2.2.2.2.2.2.1 (by omega)).mono ?_; rintro e w6 ⟨v6, rfl, hO6, hq6⟩; have hC6 := av_next hS hq6; clear hS)
      | (have nB : ∀ j u, (AVal.cells ⟨c.k, c.n, c.s⟩)[j]? = some u → w6.cell? ((⟨W0.heap.size, 0, none⟩ : Addr).add j) = some u := (fun j u hu => by rw [Addr.add_mid, (bcell hq6).1 _ _ (by simp), ← Addr.add_mid]; exact newv_cells W0 ⟨c.k, c.n, c.s⟩ 29 j u hu); have hbb := hq6.size; have hzz : W0.heap.size < (W0.alloc (.cells #[.int .i64 c.k, .int .i64 c.n, .string c.s] 29)).heap.size := (by simp); refine step_append_to (some 11) rfl rfl _ _ 24 rfl (W0.alloc (.cells #[.int .i64 c.k, .int .i64 c.n, .string c.s] 29)).heap.size 29 i0 _ 3 i0.bytes Try.underlying24 hi hz hsz rfl rfl (by decide) v6 L.length (L.flatMap AVal.cells) rfl hO6.1 ⟨W0.heap.size, 0, none⟩ 1 1 (AVal.cells ⟨c.k, c.n, c.s⟩) rfl rfl nB (cellsv_one _) hmb hby0 hbb ?_; intro v7 w7 hown7 hg7 hn7; (try simp only [Act.put, List.setIfInBounds_toArray, List.set_cons_zero, List.set_cons_succ]); have HX : Hid (AXV w L ⟨c.k, c.n, c.s⟩ v7 w7) := axv_made (Nat.le_of_lt (Nat.lt_trans hwW hzz)) hC6.2.2.2.2.2.2.2.2.2 hO6.1 hown7 hg7 hn7; have hX7 := av_grown hC6 hg7 (own_ne hO6.1 (Nat.lt_trans hwW hzz)) (own_ne hO6.1 (Nat.lt_trans hbW hzz)) (fun k hk => Nat.le_trans (Nat.le_of_lt (Nat.lt_trans hwW hzz)) (World.ownsRow.lt hO6.1 k hk).1); clear hown7 hg7 hn7 hO6 hq6 nB hbb hzz)
      | (refine step_append_to (some 11) rfl rfl _ _ 24 rfl W0.heap.size 29 i0 _ 3 i0.bytes Try.underlying24 hi hz hsz rfl rfl (by decide) v6 L.length (L.flatMap AVal.cells) rfl (hO6.1.alloc _) ⟨w6.heap.size, 0, none⟩ 1 1 (AVal.cells ⟨c.k, c.n, c.s⟩) rfl rfl (newv_cells w6 ⟨c.k, c.n, c.s⟩ 29) (cellsv_one _) hmb hby0 (Nat.le_trans hq6.size (alloc_below _ _).size) ?_; intro v7 w7 hown7 hg7 hn7; (try simp only [Act.put, List.setIfInBounds_toArray, List.set_cons_zero, List.set_cons_succ]); have HX : Hid (AXV w L ⟨c.k, c.n, c.s⟩ v7 w7) := axv_made (Nat.le_of_lt hwW) (av_alloc hC6 _).2.2.2.2.2.2.2.2.2 (hO6.1.alloc _) hown7 hg7 hn7; have hX7 := av_grown (av_alloc hC6 _) hg7 (own_ne hO6.1 hwW) (own_ne hO6.1 hbW) (fun k hk => Nat.le_trans (Nat.le_of_lt hwW) (World.ownsRow.lt hO6.1 k hk).1); clear hown7 hg7 hn7 hO6 hq6))
  all_goals
    obtain ⟨⟨base, hwb, hO⟩, hbz⟩ := HX.out
    obtain ⟨b7, c7, rfl, hb7, hc7⟩ := hO.cols
    have hb7' : Hid (w.heap.size ≤ b7) := Nat.le_trans hwb hb7
    clear hwb hb7
    have HY : Hid (ValsAt w7 (some ⟨b7, 0, none⟩) (L ++ [⟨c.k, c.n, c.s⟩]) ∧ Below w.heap.size w w7) := ⟨hc7, hbz⟩
    clear HX hO hc7 hbz hX7 hC6 hA
    go_wp2_with fail
    go_ret
    exact ⟨b7, c7, by rw [List.length_append]; rfl, hb7'.out, HY.out.1, HY.out.2⟩

end Go.Proofs.Ytddcmibggdighaa
