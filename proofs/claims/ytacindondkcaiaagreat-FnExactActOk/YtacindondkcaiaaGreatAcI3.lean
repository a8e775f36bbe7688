/- The contracts of the nine methods act of what is done, over the seat's translation. -/
import Derived.Test.YtacindondkcaiaaGreatAcP0
namespace Go.Proofs.YtacindondkcaiaaGreat
open Go.RowKit

theorem there_new (w : World) (o : Obj) (cs : List Value) (t : TypeId) (n : Nat) (hl : cs.length = n) : ((w.alloc o).alloc (.cells cs.toArray t)).there (w.heap.size + 1) 0 n := by
  have h := there_box (w.alloc o) cs t n hl
  rwa [size_alloc] at h

set_option maxRecDepth 100000 in
set_option maxHeartbeats 1000000 in
theorem table_act (nm : ByteArray) (a : Option Addr) (n cap : Nat) (w : World) : Calls Tryz.prog 60 #[.agg #[.string nm, .slice a n cap]] w fun e w' => e = .returned (.agg #[.int .i64 1, .string nm, .int .i64 0, .slice none 0 0, .slice a n cap, .int .i64 0, .string ⟨#[]⟩, .string ⟨#[]⟩, .string ⟨#[]⟩, .int .i64 0, .bool false, .bool false, .int .i64 0, .int .i64 0, .string ⟨#[]⟩, .string ⟨#[]⟩, .string ⟨#[]⟩, .string ⟨#[]⟩, .int .i64 0]) ∧ Below w.heap.size w w' := by
  have hT := there_new w (.cells #[.string nm, .slice a n cap] 81) [.int .i64 0, .string ⟨#[]⟩, .int .i64 0, .slice none 0 0, .slice none 0 0, .int .i64 0, .string ⟨#[]⟩, .string ⟨#[]⟩, .string ⟨#[]⟩, .int .i64 0, .bool false, .bool false, .int .i64 0, .int .i64 0, .string ⟨#[]⟩, .string ⟨#[]⟩, .string ⟨#[]⟩, .string ⟨#[]⟩, .int .i64 0] 45 19 rfl
  have hB : Hid (Below w.heap.size w ((w.alloc (.cells #[.string nm, .slice a n cap] 81)).alloc (.cells #[.int .i64 0, .string ⟨#[]⟩, .int .i64 0, .slice none 0 0, .slice none 0 0, .int .i64 0, .string ⟨#[]⟩, .string ⟨#[]⟩, .string ⟨#[]⟩, .int .i64 0, .bool false, .bool false, .int .i64 0, .int .i64 0, .string ⟨#[]⟩, .string ⟨#[]⟩, .string ⟨#[]⟩, .string ⟨#[]⟩, .int .i64 0] 45))) := ((Below.refl _ _).alloc (Nat.le_refl _) _).alloc (by simp) _
  go_enter Tryz.func60, Tryz.ntmps60
  go_wp2_with (refine st_act rfl _ _ rfl _ rfl [.int .i64 1, .string nm, .int .i64 0, .slice none 0 0, .slice a n cap, .int .i64 0, .string ⟨#[]⟩, .string ⟨#[]⟩, .string ⟨#[]⟩, .int .i64 0, .bool false, .bool false, .int .i64 0, .int .i64 0, .string ⟨#[]⟩, .string ⟨#[]⟩, .string ⟨#[]⟩, .string ⟨#[]⟩, .int .i64 0] rfl rfl hT (by simp [Value.oneCell']) ?_)
  exact bodyPost_ret (results_cell Tryz.results60 rfl (run_loadVar_mid _ _ 0 _ _ _ (World.rangeAt_setCells_same _ _ _ _ hT) Tryz.underlying45 rfl (by rw [act_size]; rfl))) rfl ⟨rfl, below_put hB.out (by omega) _ _⟩

set_option maxRecDepth 100000 in
set_option maxHeartbeats 1000000 in
theorem link_act (l : ALnk) (w : World) : Calls Tryz.prog 71 #[.agg #[.string l.fr, .string l.co, .string l.tt, .int .i64 l.hw]] w fun e w' => e = .returned (.agg #[.int .i64 2, .string ⟨#[]⟩, .int .i64 0, .slice none 0 0, .slice none 0 0, .int .i64 0, .string ⟨#[]⟩, .string ⟨#[]⟩, .string ⟨#[]⟩, .int .i64 0, .bool false, .bool false, .int .i64 0, .int .i64 0, .string ⟨#[]⟩, .string l.fr, .string l.co, .string l.tt, .int .i64 l.hw]) ∧ Below w.heap.size w w' := by
  have hT := there_new w (.cells #[.string l.fr, .string l.co, .string l.tt, .int .i64 l.hw] 83) [.int .i64 0, .string ⟨#[]⟩, .int .i64 0, .slice none 0 0, .slice none 0 0, .int .i64 0, .string ⟨#[]⟩, .string ⟨#[]⟩, .string ⟨#[]⟩, .int .i64 0, .bool false, .bool false, .int .i64 0, .int .i64 0, .string ⟨#[]⟩, .string ⟨#[]⟩, .string ⟨#[]⟩, .string ⟨#[]⟩, .int .i64 0] 45 19 rfl
  have hB : Hid (Below w.heap.size w ((w.alloc (.cells #[.string l.fr, .string l.co, .string l.tt, .int .i64 l.hw] 83)).alloc (.cells #[.int .i64 0, .string ⟨#[]⟩, .int .i64 0, .slice none 0 0, .slice none 0 0, .int .i64 0, .string ⟨#[]⟩, .string ⟨#[]⟩, .string ⟨#[]⟩, .int .i64 0, .bool false, .bool false, .int .i64 0, .int .i64 0, .string ⟨#[]⟩, .string ⟨#[]⟩, .string ⟨#[]⟩, .string ⟨#[]⟩, .int .i64 0] 45))) := ((Below.refl _ _).alloc (Nat.le_refl _) _).alloc (by simp) _
  go_enter Tryz.func71, Tryz.ntmps71
  go_wp2_with (refine st_act rfl _ _ rfl _ rfl [.int .i64 2, .string ⟨#[]⟩, .int .i64 0, .slice none 0 0, .slice none 0 0, .int .i64 0, .string ⟨#[]⟩, .string ⟨#[]⟩, .string ⟨#[]⟩, .int .i64 0, .bool false, .bool false, .int .i64 0, .int .i64 0, .string ⟨#[]⟩, .string l.fr, .string l.co, .string l.tt, .int .i64 l.hw] rfl rfl hT (by simp [Value.oneCell']) ?_)
  exact bodyPost_ret (results_cell Tryz.results71 rfl (run_loadVar_mid _ _ 0 _ _ _ (World.rangeAt_setCells_same _ _ _ _ hT) Tryz.underlying45 rfl (by rw [act_size]; rfl))) rfl ⟨rfl, below_put hB.out (by omega) _ _⟩

set_option maxRecDepth 100000 in
set_option maxHeartbeats 1000000 in
theorem put_act (nm : ByteArray) (a : Option Addr) (n cap : Nat) (w : World) : Calls Tryz.prog 76 #[.agg #[.string nm, .slice a n cap]] w fun e w' => e = .returned (.agg #[.int .i64 3, .string nm, .int .i64 0, .slice a n cap, .slice none 0 0, .int .i64 0, .string ⟨#[]⟩, .string ⟨#[]⟩, .string ⟨#[]⟩, .int .i64 0, .bool false, .bool false, .int .i64 0, .int .i64 0, .string ⟨#[]⟩, .string ⟨#[]⟩, .string ⟨#[]⟩, .string ⟨#[]⟩, .int .i64 0]) ∧ Below w.heap.size w w' := by
  have hT := there_new w (.cells #[.string nm, .slice a n cap] 85) [.int .i64 0, .string ⟨#[]⟩, .int .i64 0, .slice none 0 0, .slice none 0 0, .int .i64 0, .string ⟨#[]⟩, .string ⟨#[]⟩, .string ⟨#[]⟩, .int .i64 0, .bool false, .bool false, .int .i64 0, .int .i64 0, .string ⟨#[]⟩, .string ⟨#[]⟩, .string ⟨#[]⟩, .string ⟨#[]⟩, .int .i64 0] 45 19 rfl
  have hB : Hid (Below w.heap.size w ((w.alloc (.cells #[.string nm, .slice a n cap] 85)).alloc (.cells #[.int .i64 0, .string ⟨#[]⟩, .int .i64 0, .slice none 0 0, .slice none 0 0, .int .i64 0, .string ⟨#[]⟩, .string ⟨#[]⟩, .string ⟨#[]⟩, .int .i64 0, .bool false, .bool false, .int .i64 0, .int .i64 0, .string ⟨#[]⟩, .string ⟨#[]⟩, .string ⟨#[]⟩, .string ⟨#[]⟩, .int .i64 0] 45))) := ((Below.refl _ _).alloc (Nat.le_refl _) _).alloc (by simp) _
  go_enter Tryz.func76, Tryz.ntmps76
  go_wp2_with (refine st_act rfl _ _ rfl _ rfl [.int .i64 3, .string nm, .int .i64 0, .slice a n cap, .slice none 0 0, .int .i64 0, .string ⟨#[]⟩, .string ⟨#[]⟩, .string ⟨#[]⟩, .int .i64 0, .bool false, .bool false, .int .i64 0, .int .i64 0, .string ⟨#[]⟩, .string ⟨#[]⟩, .string ⟨#[]⟩, .string ⟨#[]⟩, .int .i64 0] rfl rfl hT (by simp [Value.oneCell']) ?_)
  exact bodyPost_ret (results_cell Tryz.results76 rfl (run_loadVar_mid _ _ 0 _ _ _ (World.rangeAt_setCells_same _ _ _ _ hT) Tryz.underlying45 rfl (by rw [act_size]; rfl))) rfl ⟨rfl, below_put hB.out (by omega) _ _⟩

set_option maxRecDepth 100000 in
set_option maxHeartbeats 1000000 in
theorem setd_act (nm : ByteArray) (id : Int) (a : Option Addr) (n cap : Nat) (w : World) : Calls Tryz.prog 83 #[.agg #[.string nm, .int .i64 id, .slice a n cap]] w fun e w' => e = .returned (.agg #[.int .i64 4, .string nm, .int .i64 id, .slice a n cap, .slice none 0 0, .int .i64 0, .string ⟨#[]⟩, .string ⟨#[]⟩, .string ⟨#[]⟩, .int .i64 0, .bool false, .bool false, .int .i64 0, .int .i64 0, .string ⟨#[]⟩, .string ⟨#[]⟩, .string ⟨#[]⟩, .string ⟨#[]⟩, .int .i64 0]) ∧ Below w.heap.size w w' := by
  have hT := there_new w (.cells #[.string nm, .int .i64 id, .slice a n cap] 87) [.int .i64 0, .string ⟨#[]⟩, .int .i64 0, .slice none 0 0, .slice none 0 0, .int .i64 0, .string ⟨#[]⟩, .string ⟨#[]⟩, .string ⟨#[]⟩, .int .i64 0, .bool false, .bool false, .int .i64 0, .int .i64 0, .string ⟨#[]⟩, .string ⟨#[]⟩, .string ⟨#[]⟩, .string ⟨#[]⟩, .int .i64 0] 45 19 rfl
  have hB : Hid (Below w.heap.size w ((w.alloc (.cells #[.string nm, .int .i64 id, .slice a n cap] 87)).alloc (.cells #[.int .i64 0, .string ⟨#[]⟩, .int .i64 0, .slice none 0 0, .slice none 0 0, .int .i64 0, .string ⟨#[]⟩, .string ⟨#[]⟩, .string ⟨#[]⟩, .int .i64 0, .bool false, .bool false, .int .i64 0, .int .i64 0, .string ⟨#[]⟩, .string ⟨#[]⟩, .string ⟨#[]⟩, .string ⟨#[]⟩, .int .i64 0] 45))) := ((Below.refl _ _).alloc (Nat.le_refl _) _).alloc (by simp) _
  go_enter Tryz.func83, Tryz.ntmps83
  go_wp2_with (refine st_act rfl _ _ rfl _ rfl [.int .i64 4, .string nm, .int .i64 id, .slice a n cap, .slice none 0 0, .int .i64 0, .string ⟨#[]⟩, .string ⟨#[]⟩, .string ⟨#[]⟩, .int .i64 0, .bool false, .bool false, .int .i64 0, .int .i64 0, .string ⟨#[]⟩, .string ⟨#[]⟩, .string ⟨#[]⟩, .string ⟨#[]⟩, .int .i64 0] rfl rfl hT (by simp [Value.oneCell']) ?_)
  exact bodyPost_ret (results_cell Tryz.results83 rfl (run_loadVar_mid _ _ 0 _ _ _ (World.rangeAt_setCells_same _ _ _ _ hT) Tryz.underlying45 rfl (by rw [act_size]; rfl))) rfl ⟨rfl, below_put hB.out (by omega) _ _⟩

set_option maxRecDepth 100000 in
set_option maxHeartbeats 1000000 in
theorem off_act (nm : ByteArray) (id : Int) (w : World) : Calls Tryz.prog 88 #[.agg #[.string nm, .int .i64 id]] w fun e w' => e = .returned (.agg #[.int .i64 5, .string nm, .int .i64 id, .slice none 0 0, .slice none 0 0, .int .i64 0, .string ⟨#[]⟩, .string ⟨#[]⟩, .string ⟨#[]⟩, .int .i64 0, .bool false, .bool false, .int .i64 0, .int .i64 0, .string ⟨#[]⟩, .string ⟨#[]⟩, .string ⟨#[]⟩, .string ⟨#[]⟩, .int .i64 0]) ∧ Below w.heap.size w w' := by
  have hT := there_new w (.cells #[.string nm, .int .i64 id] 89) [.int .i64 0, .string ⟨#[]⟩, .int .i64 0, .slice none 0 0, .slice none 0 0, .int .i64 0, .string ⟨#[]⟩, .string ⟨#[]⟩, .string ⟨#[]⟩, .int .i64 0, .bool false, .bool false, .int .i64 0, .int .i64 0, .string ⟨#[]⟩, .string ⟨#[]⟩, .string ⟨#[]⟩, .string ⟨#[]⟩, .int .i64 0] 45 19 rfl
  have hB : Hid (Below w.heap.size w ((w.alloc (.cells #[.string nm, .int .i64 id] 89)).alloc (.cells #[.int .i64 0, .string ⟨#[]⟩, .int .i64 0, .slice none 0 0, .slice none 0 0, .int .i64 0, .string ⟨#[]⟩, .string ⟨#[]⟩, .string ⟨#[]⟩, .int .i64 0, .bool false, .bool false, .int .i64 0, .int .i64 0, .string ⟨#[]⟩, .string ⟨#[]⟩, .string ⟨#[]⟩, .string ⟨#[]⟩, .int .i64 0] 45))) := ((Below.refl _ _).alloc (Nat.le_refl _) _).alloc (by simp) _
  go_enter Tryz.func88, Tryz.ntmps88
  go_wp2_with (refine st_act rfl _ _ rfl _ rfl [.int .i64 5, .string nm, .int .i64 id, .slice none 0 0, .slice none 0 0, .int .i64 0, .string ⟨#[]⟩, .string ⟨#[]⟩, .string ⟨#[]⟩, .int .i64 0, .bool false, .bool false, .int .i64 0, .int .i64 0, .string ⟨#[]⟩, .string ⟨#[]⟩, .string ⟨#[]⟩, .string ⟨#[]⟩, .int .i64 0] rfl rfl hT (by simp [Value.oneCell']) ?_)
  exact bodyPost_ret (results_cell Tryz.results88 rfl (run_loadVar_mid _ _ 0 _ _ _ (World.rangeAt_setCells_same _ _ _ _ hT) Tryz.underlying45 rfl (by rw [act_size]; rfl))) rfl ⟨rfl, below_put hB.out (by omega) _ _⟩

set_option maxRecDepth 100000 in
set_option maxHeartbeats 1000000 in
theorem changing_act (tn : ByteArray) (kd : Int) (nm nw cnm : ByteArray) (ckd : Int) (nd oc : Bool) (k n : Int) (s : ByteArray) (w : World) : Calls Tryz.prog 96 #[.string tn, .agg #[.int .i64 kd, .string nm, .string nw, .string cnm, .int .i64 ckd, .bool nd, .bool oc, .int .i64 k, .int .i64 n, .string s]] w fun e w' => e = .returned (.agg #[.int .i64 6, .string tn, .int .i64 0, .slice none 0 0, .slice none 0 0, .int .i64 kd, .string nm, .string nw, .string cnm, .int .i64 ckd, .bool nd, .bool oc, .int .i64 k, .int .i64 n, .string s, .string ⟨#[]⟩, .string ⟨#[]⟩, .string ⟨#[]⟩, .int .i64 0]) ∧ Below w.heap.size w w' := by
  have hT := there_new w (.cells #[.int .i64 kd, .string nm, .string nw, .string cnm, .int .i64 ckd, .bool nd, .bool oc, .int .i64 k, .int .i64 n, .string s] 42) [.int .i64 0, .string ⟨#[]⟩, .int .i64 0, .slice none 0 0, .slice none 0 0, .int .i64 0, .string ⟨#[]⟩, .string ⟨#[]⟩, .string ⟨#[]⟩, .int .i64 0, .bool false, .bool false, .int .i64 0, .int .i64 0, .string ⟨#[]⟩, .string ⟨#[]⟩, .string ⟨#[]⟩, .string ⟨#[]⟩, .int .i64 0] 45 19 rfl
  have hB : Hid (Below w.heap.size w ((w.alloc (.cells #[.int .i64 kd, .string nm, .string nw, .string cnm, .int .i64 ckd, .bool nd, .bool oc, .int .i64 k, .int .i64 n, .string s] 42)).alloc (.cells #[.int .i64 0, .string ⟨#[]⟩, .int .i64 0, .slice none 0 0, .slice none 0 0, .int .i64 0, .string ⟨#[]⟩, .string ⟨#[]⟩, .string ⟨#[]⟩, .int .i64 0, .bool false, .bool false, .int .i64 0, .int .i64 0, .string ⟨#[]⟩, .string ⟨#[]⟩, .string ⟨#[]⟩, .string ⟨#[]⟩, .int .i64 0] 45))) := ((Below.refl _ _).alloc (Nat.le_refl _) _).alloc (by simp) _
  go_enter Tryz.func96, Tryz.ntmps96
  go_wp2_with (refine st_act rfl _ _ rfl _ rfl [.int .i64 6, .string tn, .int .i64 0, .slice none 0 0, .slice none 0 0, .int .i64 kd, .string nm, .string nw, .string cnm, .int .i64 ckd, .bool nd, .bool oc, .int .i64 k, .int .i64 n, .string s, .string ⟨#[]⟩, .string ⟨#[]⟩, .string ⟨#[]⟩, .int .i64 0] rfl rfl hT (by simp [Value.oneCell']) ?_)
  exact bodyPost_ret (results_cell Tryz.results96 rfl (run_loadVar_mid _ _ 0 _ _ _ (World.rangeAt_setCells_same _ _ _ _ hT) Tryz.underlying45 rfl (by rw [act_size]; rfl))) rfl ⟨rfl, below_put hB.out (by omega) _ _⟩

set_option maxRecDepth 100000 in
set_option maxHeartbeats 1000000 in
theorem add_act (nm : ByteArray) (c : ACol) (w : World) : Calls Tryz.prog 92 #[.agg #[.string nm, .string c.nm, .int .i64 c.kd, .bool c.nd, .bool c.oc, .int .i64 c.k, .int .i64 c.n, .string c.s]] w fun e w' => e = .returned (.agg #[.int .i64 6, .string nm, .int .i64 0, .slice none 0 0, .slice none 0 0, .int .i64 1, .string ⟨#[]⟩, .string ⟨#[]⟩, .string c.nm, .int .i64 c.kd, .bool c.nd, .bool c.oc, .int .i64 c.k, .int .i64 c.n, .string c.s, .string ⟨#[]⟩, .string ⟨#[]⟩, .string ⟨#[]⟩, .int .i64 0]) ∧ Below w.heap.size w w' := by
  have hT0 : Hid (((w.alloc (.cells #[.string nm, .string c.nm, .int .i64 c.kd, .bool c.nd, .bool c.oc, .int .i64 c.k, .int .i64 c.n, .string c.s] 99)).alloc (.cells #[.int .i64 0, .string ⟨#[]⟩, .int .i64 0, .slice none 0 0, .slice none 0 0, .int .i64 0, .string ⟨#[]⟩, .string ⟨#[]⟩, .string ⟨#[]⟩, .int .i64 0, .bool false, .bool false, .int .i64 0, .int .i64 0, .string ⟨#[]⟩, .string ⟨#[]⟩, .string ⟨#[]⟩, .string ⟨#[]⟩, .int .i64 0] 45)).there (w.heap.size + 1) 0 19) := there_new w (.cells #[.string nm, .string c.nm, .int .i64 c.kd, .bool c.nd, .bool c.oc, .int .i64 c.k, .int .i64 c.n, .string c.s] 99) [.int .i64 0, .string ⟨#[]⟩, .int .i64 0, .slice none 0 0, .slice none 0 0, .int .i64 0, .string ⟨#[]⟩, .string ⟨#[]⟩, .string ⟨#[]⟩, .int .i64 0, .bool false, .bool false, .int .i64 0, .int .i64 0, .string ⟨#[]⟩, .string ⟨#[]⟩, .string ⟨#[]⟩, .string ⟨#[]⟩, .int .i64 0] 45 19 rfl
  have hB0 : Hid (Below w.heap.size w ((w.alloc (.cells #[.string nm, .string c.nm, .int .i64 c.kd, .bool c.nd, .bool c.oc, .int .i64 c.k, .int .i64 c.n, .string c.s] 99)).alloc (.cells #[.int .i64 0, .string ⟨#[]⟩, .int .i64 0, .slice none 0 0, .slice none 0 0, .int .i64 0, .string ⟨#[]⟩, .string ⟨#[]⟩, .string ⟨#[]⟩, .int .i64 0, .bool false, .bool false, .int .i64 0, .int .i64 0, .string ⟨#[]⟩, .string ⟨#[]⟩, .string ⟨#[]⟩, .string ⟨#[]⟩, .int .i64 0] 45))) := ((Below.refl _ _).alloc (Nat.le_refl _) _).alloc (by simp) _
  go_enter Tryz.func92, Tryz.ntmps92
  go_wp2_with fail
  refine (changing_act nm 1 ⟨#[]⟩ ⟨#[]⟩ c.nm c.kd c.nd c.oc c.k c.n c.s _).mono ?_
  rintro e w1 ⟨rfl, hb⟩
  have hT : w1.there (w.heap.size + 1) 0 19 := there_next hT0.out (by simp) hb
  have hB : Hid (Below w.heap.size w w1) := hB0.out.trans (hb.mono hB0.out.size)
  clear hT0 hB0 hb
  go_wp2_with (refine st_act rfl _ _ rfl _ rfl [.int .i64 6, .string nm, .int .i64 0, .slice none 0 0, .slice none 0 0, .int .i64 1, .string ⟨#[]⟩, .string ⟨#[]⟩, .string c.nm, .int .i64 c.kd, .bool c.nd, .bool c.oc, .int .i64 c.k, .int .i64 c.n, .string c.s, .string ⟨#[]⟩, .string ⟨#[]⟩, .string ⟨#[]⟩, .int .i64 0] rfl rfl hT (by simp [Value.oneCell']) ?_)
  exact bodyPost_ret (results_cell Tryz.results92 rfl (run_loadVar_mid _ _ 0 _ _ _ (World.rangeAt_setCells_same _ _ _ _ hT) Tryz.underlying45 rfl (by rw [act_size]; rfl))) rfl ⟨rfl, below_put hB.out (by omega) _ _⟩

set_option maxRecDepth 100000 in
set_option maxHeartbeats 1000000 in
theorem drop_act (nm co : ByteArray) (w : World) : Calls Tryz.prog 97 #[.agg #[.string nm, .string co]] w fun e w' => e = .returned (.agg #[.int .i64 6, .string nm, .int .i64 0, .slice none 0 0, .slice none 0 0, .int .i64 2, .string co, .string ⟨#[]⟩, .string ⟨#[]⟩, .int .i64 0, .bool false, .bool false, .int .i64 0, .int .i64 0, .string ⟨#[]⟩, .string ⟨#[]⟩, .string ⟨#[]⟩, .string ⟨#[]⟩, .int .i64 0]) ∧ Below w.heap.size w w' := by
  have hT0 : Hid (((w.alloc (.cells #[.string nm, .string co] 101)).alloc (.cells #[.int .i64 0, .string ⟨#[]⟩, .int .i64 0, .slice none 0 0, .slice none 0 0, .int .i64 0, .string ⟨#[]⟩, .string ⟨#[]⟩, .string ⟨#[]⟩, .int .i64 0, .bool false, .bool false, .int .i64 0, .int .i64 0, .string ⟨#[]⟩, .string ⟨#[]⟩, .string ⟨#[]⟩, .string ⟨#[]⟩, .int .i64 0] 45)).there (w.heap.size + 1) 0 19) := there_new w (.cells #[.string nm, .string co] 101) [.int .i64 0, .string ⟨#[]⟩, .int .i64 0, .slice none 0 0, .slice none 0 0, .int .i64 0, .string ⟨#[]⟩, .string ⟨#[]⟩, .string ⟨#[]⟩, .int .i64 0, .bool false, .bool false, .int .i64 0, .int .i64 0, .string ⟨#[]⟩, .string ⟨#[]⟩, .string ⟨#[]⟩, .string ⟨#[]⟩, .int .i64 0] 45 19 rfl
  have hB0 : Hid (Below w.heap.size w ((w.alloc (.cells #[.string nm, .string co] 101)).alloc (.cells #[.int .i64 0, .string ⟨#[]⟩, .int .i64 0, .slice none 0 0, .slice none 0 0, .int .i64 0, .string ⟨#[]⟩, .string ⟨#[]⟩, .string ⟨#[]⟩, .int .i64 0, .bool false, .bool false, .int .i64 0, .int .i64 0, .string ⟨#[]⟩, .string ⟨#[]⟩, .string ⟨#[]⟩, .string ⟨#[]⟩, .int .i64 0] 45))) := ((Below.refl _ _).alloc (Nat.le_refl _) _).alloc (by simp) _
  go_enter Tryz.func97, Tryz.ntmps97
  go_wp2_with fail
  refine (changing_act nm 2 co ⟨#[]⟩ ⟨#[]⟩ 0 false false 0 0 ⟨#[]⟩ _).mono ?_
  rintro e w1 ⟨rfl, hb⟩
  have hT : w1.there (w.heap.size + 1) 0 19 := there_next hT0.out (by simp) hb
  have hB : Hid (Below w.heap.size w w1) := hB0.out.trans (hb.mono hB0.out.size)
  clear hT0 hB0 hb
  go_wp2_with (refine st_act rfl _ _ rfl _ rfl [.int .i64 6, .string nm, .int .i64 0, .slice none 0 0, .slice none 0 0, .int .i64 2, .string co, .string ⟨#[]⟩, .string ⟨#[]⟩, .int .i64 0, .bool false, .bool false, .int .i64 0, .int .i64 0, .string ⟨#[]⟩, .string ⟨#[]⟩, .string ⟨#[]⟩, .string ⟨#[]⟩, .int .i64 0] rfl rfl hT (by simp [Value.oneCell']) ?_)
  exact bodyPost_ret (results_cell Tryz.results97 rfl (run_loadVar_mid _ _ 0 _ _ _ (World.rangeAt_setCells_same _ _ _ _ hT) Tryz.underlying45 rfl (by rw [act_size]; rfl))) rfl ⟨rfl, below_put hB.out (by omega) _ _⟩

set_option maxRecDepth 100000 in
set_option maxHeartbeats 1000000 in
theorem named_act (nm co tt : ByteArray) (w : World) : Calls Tryz.prog 101 #[.agg #[.string nm, .string co, .string tt]] w fun e w' => e = .returned (.agg #[.int .i64 6, .string nm, .int .i64 0, .slice none 0 0, .slice none 0 0, .int .i64 3, .string co, .string tt, .string ⟨#[]⟩, .int .i64 0, .bool false, .bool false, .int .i64 0, .int .i64 0, .string ⟨#[]⟩, .string ⟨#[]⟩, .string ⟨#[]⟩, .string ⟨#[]⟩, .int .i64 0]) ∧ Below w.heap.size w w' := by
  have hT0 : Hid (((w.alloc (.cells #[.string nm, .string co, .string tt] 103)).alloc (.cells #[.int .i64 0, .string ⟨#[]⟩, .int .i64 0, .slice none 0 0, .slice none 0 0, .int .i64 0, .string ⟨#[]⟩, .string ⟨#[]⟩, .string ⟨#[]⟩, .int .i64 0, .bool false, .bool false, .int .i64 0, .int .i64 0, .string ⟨#[]⟩, .string ⟨#[]⟩, .string ⟨#[]⟩, .string ⟨#[]⟩, .int .i64 0] 45)).there (w.heap.size + 1) 0 19) := there_new w (.cells #[.string nm, .string co, .string tt] 103) [.int .i64 0, .string ⟨#[]⟩, .int .i64 0, .slice none 0 0, .slice none 0 0, .int .i64 0, .string ⟨#[]⟩, .string ⟨#[]⟩, .string ⟨#[]⟩, .int .i64 0, .bool false, .bool false, .int .i64 0, .int .i64 0, .string ⟨#[]⟩, .string ⟨#[]⟩, .string ⟨#[]⟩, .string ⟨#[]⟩, .int .i64 0] 45 19 rfl
  have hB0 : Hid (Below w.heap.size w ((w.alloc (.cells #[.string nm, .string co, .string tt] 103)).alloc (.cells #[.int .i64 0, .string ⟨#[]⟩, .int .i64 0, .slice none 0 0, .slice none 0 0, .int .i64 0, .string ⟨#[]⟩, .string ⟨#[]⟩, .string ⟨#[]⟩, .int .i64 0, .bool false, .bool false, .int .i64 0, .int .i64 0, .string ⟨#[]⟩, .string ⟨#[]⟩, .string ⟨#[]⟩, .string ⟨#[]⟩, .int .i64 0] 45))) := ((Below.refl _ _).alloc (Nat.le_refl _) _).alloc (by simp) _
  go_enter Tryz.func101, Tryz.ntmps101
  go_wp2_with fail
  refine (changing_act nm 3 co tt ⟨#[]⟩ 0 false false 0 0 ⟨#[]⟩ _).mono ?_
  rintro e w1 ⟨rfl, hb⟩
  have hT : w1.there (w.heap.size + 1) 0 19 := there_next hT0.out (by simp) hb
  have hB : Hid (Below w.heap.size w w1) := hB0.out.trans (hb.mono hB0.out.size)
  clear hT0 hB0 hb
  go_wp2_with (refine st_act rfl _ _ rfl _ rfl [.int .i64 6, .string nm, .int .i64 0, .slice none 0 0, .slice none 0 0, .int .i64 3, .string co, .string tt, .string ⟨#[]⟩, .int .i64 0, .bool false, .bool false, .int .i64 0, .int .i64 0, .string ⟨#[]⟩, .string ⟨#[]⟩, .string ⟨#[]⟩, .string ⟨#[]⟩, .int .i64 0] rfl rfl hT (by simp [Value.oneCell']) ?_)
  exact bodyPost_ret (results_cell Tryz.results101 rfl (run_loadVar_mid _ _ 0 _ _ _ (World.rangeAt_setCells_same _ _ _ _ hT) Tryz.underlying45 rfl (by rw [act_size]; rfl))) rfl ⟨rfl, below_put hB.out (by omega) _ _⟩

set_option maxRecDepth 100000 in
set_option maxHeartbeats 1000000 in
theorem kindd_act (nm co : ByteArray) (k : Int) (w : World) : Calls Tryz.prog 105 #[.agg #[.string nm, .string co, .int .i64 k]] w fun e w' => e = .returned (.agg #[.int .i64 6, .string nm, .int .i64 0, .slice none 0 0, .slice none 0 0, .int .i64 4, .string co, .string ⟨#[]⟩, .string ⟨#[]⟩, .int .i64 k, .bool false, .bool false, .int .i64 0, .int .i64 0, .string ⟨#[]⟩, .string ⟨#[]⟩, .string ⟨#[]⟩, .string ⟨#[]⟩, .int .i64 0]) ∧ Below w.heap.size w w' := by
  have hT0 : Hid (((w.alloc (.cells #[.string nm, .string co, .int .i64 k] 105)).alloc (.cells #[.int .i64 0, .string ⟨#[]⟩, .int .i64 0, .slice none 0 0, .slice none 0 0, .int .i64 0, .string ⟨#[]⟩, .string ⟨#[]⟩, .string ⟨#[]⟩, .int .i64 0, .bool false, .bool false, .int .i64 0, .int .i64 0, .string ⟨#[]⟩, .string ⟨#[]⟩, .string ⟨#[]⟩, .string ⟨#[]⟩, .int .i64 0] 45)).there (w.heap.size + 1) 0 19) := there_new w (.cells #[.string nm, .string co, .int .i64 k] 105) [.int .i64 0, .string ⟨#[]⟩, .int .i64 0, .slice none 0 0, .slice none 0 0, .int .i64 0, .string ⟨#[]⟩, .string ⟨#[]⟩, .string ⟨#[]⟩, .int .i64 0, .bool false, .bool false, .int .i64 0, .int .i64 0, .string ⟨#[]⟩, .string ⟨#[]⟩, .string ⟨#[]⟩, .string ⟨#[]⟩, .int .i64 0] 45 19 rfl
  have hB0 : Hid (Below w.heap.size w ((w.alloc (.cells #[.string nm, .string co, .int .i64 k] 105)).alloc (.cells #[.int .i64 0, .string ⟨#[]⟩, .int .i64 0, .slice none 0 0, .slice none 0 0, .int .i64 0, .string ⟨#[]⟩, .string ⟨#[]⟩, .string ⟨#[]⟩, .int .i64 0, .bool false, .bool false, .int .i64 0, .int .i64 0, .string ⟨#[]⟩, .string ⟨#[]⟩, .string ⟨#[]⟩, .string ⟨#[]⟩, .int .i64 0] 45))) := ((Below.refl _ _).alloc (Nat.le_refl _) _).alloc (by simp) _
  go_enter Tryz.func105, Tryz.ntmps105
  go_wp2_with fail
  refine (changing_act nm 4 co ⟨#[]⟩ ⟨#[]⟩ k false false 0 0 ⟨#[]⟩ _).mono ?_
  rintro e w1 ⟨rfl, hb⟩
  have hT : w1.there (w.heap.size + 1) 0 19 := there_next hT0.out (by simp) hb
  have hB : Hid (Below w.heap.size w w1) := hB0.out.trans (hb.mono hB0.out.size)
  clear hT0 hB0 hb
  go_wp2_with (refine st_act rfl _ _ rfl _ rfl [.int .i64 6, .string nm, .int .i64 0, .slice none 0 0, .slice none 0 0, .int .i64 4, .string co, .string ⟨#[]⟩, .string ⟨#[]⟩, .int .i64 k, .bool false, .bool false, .int .i64 0, .int .i64 0, .string ⟨#[]⟩, .string ⟨#[]⟩, .string ⟨#[]⟩, .string ⟨#[]⟩, .int .i64 0] rfl rfl hT (by simp [Value.oneCell']) ?_)
  exact bodyPost_ret (results_cell Tryz.results105 rfl (run_loadVar_mid _ _ 0 _ _ _ (World.rangeAt_setCells_same _ _ _ _ hT) Tryz.underlying45 rfl (by rw [act_size]; rfl))) rfl ⟨rfl, below_put hB.out (by omega) _ _⟩

end Go.Proofs.YtacindondkcaiaaGreat
