/- What is done, loaded and stored whole, over the seat's translation. -/
import Derived.Test.YtacindondkcaiaaGreatAcA0
import Derived.Test.YtacindondkcaiaaGreatColC2
namespace Go.Proofs.YtacindondkcaiaaGreat
open Go.RowKit

theorem act_size : (Tryz.prog.info? 45).map (·.size) = some 19 := by kernel_rfl
/-- What is done, loaded whole. -/
theorem ld_act {ops : Array Oper} {rest : List Oper} {op : Oper} {a : Act} {w : World} {Q : Exit → Act → World → Prop} (hgd : op.guard = none) (x : Operand) (ho : op.op = .load 45 x)
    (B : Nat) (hx : a.eval x = .pointer (some ⟨B, 0, none⟩)) (cs : List Value) (hc : w.rangeAt B 0 cs) (hl : cs.length = 19) (h : wpList Tryz.prog ops Q rest (a.put op.dst (.agg cs.toArray)) w) : wpList Tryz.prog ops Q (op :: rest) a w :=
  wpList_load_mid hgd _ x ho B 0 hx cs _ hc Tryz.underlying45 rfl (by rw [act_size, hl]) h
/-- And stored whole. -/
theorem st_act {ops : Array Oper} {rest : List Oper} {op : Oper} {a : Act} {w : World} {Q : Exit → Act → World → Prop} (hgd : op.guard = none) (x y : Operand) (ho : op.op = .store 45 x y)
    (B : Nat) (hx : a.eval x = .pointer (some ⟨B, 0, none⟩)) (cs : List Value) (hy : a.eval y = .agg cs.toArray) (hl : cs.length = 19) (ht : w.there B 0 19) (h1 : ∀ v ∈ cs, v.oneCell' = true)
    (h : wpList Tryz.prog ops Q rest (a.put op.dst undef) (w.setCells B 0 cs)) : wpList Tryz.prog ops Q (op :: rest) a w :=
  wpList_store_mid hgd _ x y ho B 0 cs.toArray hx hy (by simpa [hl] using ht) (by simp [act_size, hl]) (all_oneCell_toArray h1) (by simpa using h)
theorem results_cell {fn : Func} {t : Tmp} {ty : TypeId} (h : fn.results = #[.cell t ty]) {tmps : Array Value} {P : Program} {w : World} {p : Addr} {v : Value} (hp : tmps.getD t undef = .pointer (some p)) (hl : (loadVar ty p).run P w = .ok v w) :
    (results fn tmps).run P w = .ok v w := by
  have hp' : tmps[t]?.getD undef = .pointer (some p) := by simpa using hp
  simp only [results, h]
  simp [hp', asAddr, hl]
theorem range_box (w : World) (cs : List Value) (t : TypeId) : (w.alloc (.cells cs.toArray t)).rangeAt w.heap.size 0 cs := fun j v hv => by
  have hb : (w.alloc (.cells cs.toArray t)).heap[w.heap.size]? = some (.cells cs.toArray t) := by
    show (w.heap.push _)[w.heap.size]? = _
    simp
  simp only [World.cell?, hb]
  simpa using hv
theorem there_box (w : World) (cs : List Value) (t : TypeId) (n : Nat) (hl : cs.length = n) : (w.alloc (.cells cs.toArray t)).there w.heap.size 0 n := fun j hj => by
  have hb : (w.alloc (.cells cs.toArray t)).heap[w.heap.size]? = some (.cells cs.toArray t) := by
    show (w.heap.push _)[w.heap.size]? = _
    simp
  constructor
  · simp only [World.cell?, hb]
    simp [hl, hj]
  · simp only [World.frozen?, hb]
    simp
theorem range_next {W W' : World} {B : Nat} {cs : List Value} (h : W.rangeAt B 0 cs) (hB : B < W.heap.size) (hb : Below W.heap.size W W') : W'.rangeAt B 0 cs := fun j v hv => by
  rw [hb.cell (p := ⟨B, 0 + j, none⟩) hB]
  exact h j v hv
theorem there_next {W W' : World} {B n : Nat} (h : W.there B 0 n) (hB : B < W.heap.size) (hb : Below W.heap.size W W') : W'.there B 0 n := fun j hj => by
  rw [hb.cell (p := ⟨B, 0 + j, none⟩) hB, hb.frozen (p := ⟨B, 0 + j, none⟩) hB]
  exact h j hj
theorem below_put {C B : Nat} {w W : World} (h : Below C w W) (hC : C ≤ B) (o : Nat) (vs : List Value) : Below C w (W.setCells B o vs) := by
  induction vs generalizing o W with
  | nil => exact h
  | cons v r ih => exact ih (h.setCell hC v) _

end Go.Proofs.YtacindondkcaiaaGreat
