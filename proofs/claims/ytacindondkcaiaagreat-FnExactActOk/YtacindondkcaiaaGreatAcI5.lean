/- The contract of impl.deedOf at a table and at a link, over the seat's translation. -/
import Derived.Test.YtacindondkcaiaaGreatAcI2
import Derived.Test.YtacindondkcaiaaGreatAcI3
import Derived.Test.YtacindondkcaiaaGreatAcI4
import Derived.Test.YtacindondkcaiaaGreatOver
namespace Go.Proofs.YtacindondkcaiaaGreat
open Go.RowKit

/-- What is done lies in its box in W, its lists too, and W lies over w. -/
def DeedIn (w : World) (x : AAct) (a0 : Option Addr) (c0 : Nat) (a1 : Option Addr) (c1 : Nat) (W : World) : Prop := BoxL w w.heap.size [.int .i64 x.kd, .string x.nm, .int .i64 x.id, .slice a0 x.sets.length c0, .slice a1 x.cols.length c1, .int .i64 x.g.kd, .string x.g.nm, .string x.g.nw, .string x.g.c.nm, .int .i64 x.g.c.kd, .bool x.g.c.nd, .bool x.g.c.oc, .int .i64 x.g.c.k, .int .i64 x.g.c.n, .string x.g.c.s, .string x.l.fr, .string x.l.co, .string x.l.tt, .int .i64 x.l.hw] W ∧ ActAt W a0 a1 x
theorem DeedIn.next {w : World} {x : AAct} {a0 a1 : Option Addr} {c0 c1 : Nat} {W W' : World} (h : DeedIn w x a0 c0 a1 c1 W) (hb : Below W.heap.size W W') : DeedIn w x a0 c0 a1 c1 W' := ⟨h.1.next hb, h.2.keep hb⟩
theorem DeedIn.start (x : AAct) (a0 a1 : Option Addr) (c0 c1 : Nat) (w : World) (h : ActAt w a0 a1 x) : DeedIn w x a0 c0 a1 c1 (w.alloc (.cells #[.int .i64 x.kd, .string x.nm, .int .i64 x.id, .slice a0 x.sets.length c0, .slice a1 x.cols.length c1, .int .i64 x.g.kd, .string x.g.nm, .string x.g.nw, .string x.g.c.nm, .int .i64 x.g.c.kd, .bool x.g.c.nd, .bool x.g.c.oc, .int .i64 x.g.c.k, .int .i64 x.g.c.n, .string x.g.c.s, .string x.l.fr, .string x.l.co, .string x.l.tt, .int .i64 x.l.hw] 45)) := ⟨BoxL.start _ _ _, h.keep ((Below.refl _ _).alloc (Nat.le_refl _) _)⟩
theorem box19 {W : World} {B : Nat} {v0 v1 v2 v3 v4 v5 v6 v7 v8 v9 v10 v11 v12 v13 v14 v15 v16 v17 v18 : Value} (h : W.rangeAt B 0 [v0, v1, v2, v3, v4, v5, v6, v7, v8, v9, v10, v11, v12, v13, v14, v15, v16, v17, v18]) : BoxA B v0 v1 v2 v3 v4 v5 v6 v7 v8 v9 v10 v11 v12 v13 v14 v15 v16 v17 v18 W := ⟨h 0 _ rfl, h 1 _ rfl, h 2 _ rfl, h 3 _ rfl, h 4 _ rfl, h 5 _ rfl, h 6 _ rfl, h 7 _ rfl, h 8 _ rfl, h 9 _ rfl, h 10 _ rfl, h 11 _ rfl, h 12 _ rfl, h 13 _ rfl, h 14 _ rfl, h 15 _ rfl, h 16 _ rfl, h 17 _ rfl, h 18 _ rfl⟩
/-- What is done, loaded whole in a region that draws its order. -/
theorem quiet_ld {ops : Array Oper} {C : World → Prop} {Q : Act → Prop} {rest : List Oper} {op : Oper} {a : Act} (hw : Region.wanted op (yielded ops a.tmps) = true) (x : Operand) (ho : op.op = .load 45 x)
    (B : Nat) (hx : a.eval x = .pointer (some ⟨B, 0, none⟩)) (cs : List Value) (hc : ∀ w, C w → w.rangeAt B 0 cs) (hl : cs.length = 19) (d : Option Tmp) (hd : op.dst = d) (h : wpQuiet Tryz.prog ops C Q rest (a.put d (.agg cs.toArray))) : wpQuiet Tryz.prog ops C Q (op :: rest) a :=
  BigFrame.wpQuiet_want hw fun K hK => ⟨.agg cs.toArray, fun w hw' => by
    unfold Oper.quietAt execOp
    simp only [ho, hx, Instr.loadAt, Instr.sureAddr, Sem.run_bind, Sem.run_pure, Result.andThen_ok, run_loadVar_mid w B 0 _ cs _ (hc w hw') Tryz.underlying45 rfl (by rw [act_size, hl])]
    exact ⟨rfl, rfl⟩, hK _ (by rw [hd]; exact h)⟩

theorem m_table_ok (nm : ByteArray) (a : Option Addr) (n cap : Nat) (w : World) : (method 420 81 (.agg #[.string nm, .slice a n cap]) "loop.example/custumal/impl.ok").run Tryz.prog w = .ok (62, .agg #[.string nm, .slice a n cap]) w := by kernel_rfl
theorem m_table_act (nm : ByteArray) (a : Option Addr) (n cap : Nat) (w : World) : (method 420 81 (.agg #[.string nm, .slice a n cap]) "loop.example/custumal/impl.act").run Tryz.prog w = .ok (60, .agg #[.string nm, .slice a n cap]) w := by kernel_rfl
theorem m_link_ok (l : ALnk) (w : World) : (method 420 83 (.agg #[.string l.fr, .string l.co, .string l.tt, .int .i64 l.hw]) "loop.example/custumal/impl.ok").run Tryz.prog w = .ok (73, .agg #[.string l.fr, .string l.co, .string l.tt, .int .i64 l.hw]) w := by kernel_rfl
theorem m_link_act (l : ALnk) (w : World) : (method 420 83 (.agg #[.string l.fr, .string l.co, .string l.tt, .int .i64 l.hw]) "loop.example/custumal/impl.act").run Tryz.prog w = .ok (71, .agg #[.string l.fr, .string l.co, .string l.tt, .int .i64 l.hw]) w := by kernel_rfl
theorem m_put_ok (nm : ByteArray) (a : Option Addr) (n cap : Nat) (w : World) : (method 420 85 (.agg #[.string nm, .slice a n cap]) "loop.example/custumal/impl.ok").run Tryz.prog w = .ok (78, .agg #[.string nm, .slice a n cap]) w := by kernel_rfl
theorem m_put_act (nm : ByteArray) (a : Option Addr) (n cap : Nat) (w : World) : (method 420 85 (.agg #[.string nm, .slice a n cap]) "loop.example/custumal/impl.act").run Tryz.prog w = .ok (76, .agg #[.string nm, .slice a n cap]) w := by kernel_rfl
theorem m_setd_ok (nm : ByteArray) (id : Int) (a : Option Addr) (n cap : Nat) (w : World) : (method 420 87 (.agg #[.string nm, .int .i64 id, .slice a n cap]) "loop.example/custumal/impl.ok").run Tryz.prog w = .ok (85, .agg #[.string nm, .int .i64 id, .slice a n cap]) w := by kernel_rfl
theorem m_setd_act (nm : ByteArray) (id : Int) (a : Option Addr) (n cap : Nat) (w : World) : (method 420 87 (.agg #[.string nm, .int .i64 id, .slice a n cap]) "loop.example/custumal/impl.act").run Tryz.prog w = .ok (83, .agg #[.string nm, .int .i64 id, .slice a n cap]) w := by kernel_rfl
theorem m_off_ok (nm : ByteArray) (id : Int) (w : World) : (method 420 89 (.agg #[.string nm, .int .i64 id]) "loop.example/custumal/impl.ok").run Tryz.prog w = .ok (90, .agg #[.string nm, .int .i64 id]) w := by kernel_rfl
theorem m_off_act (nm : ByteArray) (id : Int) (w : World) : (method 420 89 (.agg #[.string nm, .int .i64 id]) "loop.example/custumal/impl.act").run Tryz.prog w = .ok (88, .agg #[.string nm, .int .i64 id]) w := by kernel_rfl
theorem m_add_ok (nm : ByteArray) (c : ACol) (w : World) : (method 420 99 (.agg #[.string nm, .string c.nm, .int .i64 c.kd, .bool c.nd, .bool c.oc, .int .i64 c.k, .int .i64 c.n, .string c.s]) "loop.example/custumal/impl.ok").run Tryz.prog w = .ok (94, .agg #[.string nm, .string c.nm, .int .i64 c.kd, .bool c.nd, .bool c.oc, .int .i64 c.k, .int .i64 c.n, .string c.s]) w := by kernel_rfl
theorem m_add_act (nm : ByteArray) (c : ACol) (w : World) : (method 420 99 (.agg #[.string nm, .string c.nm, .int .i64 c.kd, .bool c.nd, .bool c.oc, .int .i64 c.k, .int .i64 c.n, .string c.s]) "loop.example/custumal/impl.act").run Tryz.prog w = .ok (92, .agg #[.string nm, .string c.nm, .int .i64 c.kd, .bool c.nd, .bool c.oc, .int .i64 c.k, .int .i64 c.n, .string c.s]) w := by kernel_rfl
theorem m_drop_ok (nm co : ByteArray) (w : World) : (method 420 101 (.agg #[.string nm, .string co]) "loop.example/custumal/impl.ok").run Tryz.prog w = .ok (99, .agg #[.string nm, .string co]) w := by kernel_rfl
theorem m_drop_act (nm co : ByteArray) (w : World) : (method 420 101 (.agg #[.string nm, .string co]) "loop.example/custumal/impl.act").run Tryz.prog w = .ok (97, .agg #[.string nm, .string co]) w := by kernel_rfl
theorem m_named_ok (nm co tt : ByteArray) (w : World) : (method 420 103 (.agg #[.string nm, .string co, .string tt]) "loop.example/custumal/impl.ok").run Tryz.prog w = .ok (103, .agg #[.string nm, .string co, .string tt]) w := by kernel_rfl
theorem m_named_act (nm co tt : ByteArray) (w : World) : (method 420 103 (.agg #[.string nm, .string co, .string tt]) "loop.example/custumal/impl.act").run Tryz.prog w = .ok (101, .agg #[.string nm, .string co, .string tt]) w := by kernel_rfl
theorem m_kindd_ok (nm co : ByteArray) (k : Int) (w : World) : (method 420 105 (.agg #[.string nm, .string co, .int .i64 k]) "loop.example/custumal/impl.ok").run Tryz.prog w = .ok (107, .agg #[.string nm, .string co, .int .i64 k]) w := by kernel_rfl
theorem m_kindd_act (nm co : ByteArray) (k : Int) (w : World) : (method 420 105 (.agg #[.string nm, .string co, .int .i64 k]) "loop.example/custumal/impl.act").run Tryz.prog w = .ok (105, .agg #[.string nm, .string co, .int .i64 k]) w := by kernel_rfl

set_option maxRecDepth 100000 in
set_option maxHeartbeats 4000000 in
theorem deed_table (x : AAct) (a0 a1 : Option Addr) (c0 c1 : Nat) (w : World) (hT : ActAt w a0 a1 x) (hf : x.fit) (h1 : (x.kd == 1) = true) :
    Calls Tryz.prog 23 #[.agg #[.int .i64 x.kd, .string x.nm, .int .i64 x.id, .slice a0 x.sets.length c0, .slice a1 x.cols.length c1, .int .i64 x.g.kd, .string x.g.nm, .string x.g.nw, .string x.g.c.nm, .int .i64 x.g.c.kd, .bool x.g.c.nd, .bool x.g.c.oc, .int .i64 x.g.c.k, .int .i64 x.g.c.n, .string x.g.c.s, .string x.l.fr, .string x.l.co, .string x.l.tt, .int .i64 x.l.hw]] w fun e w' => (∃ v, e = .returned (.tuple #[v, .bool (implAct x)])) ∧ Below w.heap.size w w' := by
  have hS : DeedIn w x a0 c0 a1 c1 (w.alloc (.cells #[.int .i64 x.kd, .string x.nm, .int .i64 x.id, .slice a0 x.sets.length c0, .slice a1 x.cols.length c1, .int .i64 x.g.kd, .string x.g.nm, .string x.g.nw, .string x.g.c.nm, .int .i64 x.g.c.kd, .bool x.g.c.nd, .bool x.g.c.oc, .int .i64 x.g.c.k, .int .i64 x.g.c.n, .string x.g.c.s, .string x.l.fr, .string x.l.co, .string x.l.tt, .int .i64 x.l.hw] 45)) := DeedIn.start x a0 a1 c0 c1 w hT
  have HS : Hid (DeedIn w x a0 c0 a1 c1 (w.alloc (.cells #[.int .i64 x.kd, .string x.nm, .int .i64 x.id, .slice a0 x.sets.length c0, .slice a1 x.cols.length c1, .int .i64 x.g.kd, .string x.g.nm, .string x.g.nw, .string x.g.c.nm, .int .i64 x.g.c.kd, .bool x.g.c.nd, .bool x.g.c.oc, .int .i64 x.g.c.k, .int .i64 x.g.c.n, .string x.g.c.s, .string x.l.fr, .string x.l.co, .string x.l.tt, .int .i64 x.l.hw] 45))) := hS
  clear hS
  have HF : Hid x.fit := hf
  clear hf hT
  have inh : Nonempty (Over (DeedIn w x a0 c0 a1 c1)) := ⟨⟨_, HS.out⟩⟩
  have g0 : ∀ W, (∃ p : Over (DeedIn w x a0 c0 a1 c1), W = p.W) → W.rangeAt w.heap.size 0 [.int .i64 x.kd, .string x.nm, .int .i64 x.id, .slice a0 x.sets.length c0, .slice a1 x.cols.length c1, .int .i64 x.g.kd, .string x.g.nm, .string x.g.nw, .string x.g.c.nm, .int .i64 x.g.c.kd, .bool x.g.c.nd, .bool x.g.c.oc, .int .i64 x.g.c.k, .int .i64 x.g.c.n, .string x.g.c.s, .string x.l.fr, .string x.l.co, .string x.l.tt, .int .i64 x.l.hw] := fun W ⟨p, e⟩ => e ▸ p.ok.1.1
  have G0 : Hid (∀ W, (∃ p : Over (DeedIn w x a0 c0 a1 c1), W = p.W) → W.rangeAt w.heap.size 0 [.int .i64 x.kd, .string x.nm, .int .i64 x.id, .slice a0 x.sets.length c0, .slice a1 x.cols.length c1, .int .i64 x.g.kd, .string x.g.nm, .string x.g.nw, .string x.g.c.nm, .int .i64 x.g.c.kd, .bool x.g.c.nd, .bool x.g.c.oc, .int .i64 x.g.c.k, .int .i64 x.g.c.n, .string x.g.c.s, .string x.l.fr, .string x.l.co, .string x.l.tt, .int .i64 x.l.hw]) := g0
  clear g0
  have hm1 := m_table_ok x.nm a1 x.cols.length c1
  have hm2 := m_table_act x.nm a1 x.cols.length c1
  have hv : implAct x = (nameOk x.nm && (decide (1 ≤ x.cols.length) && (decide (x.cols.length ≤ 5) && x.cols.all ACol.ok)) && actSame (⟨1, x.nm, 0, [], x.cols, chg0, lnk0⟩) x) := by simp [implAct, implDeed, deedAct, beq_iff_eq.1 h1]
  rw [hv]
  have hcon : ∀ p : Over (DeedIn w x a0 c0 a1 c1), Calls Tryz.prog 62 #[.agg #[.string x.nm, .slice a1 x.cols.length c1]] p.W fun e w' => e = .returned (.bool (nameOk x.nm && (decide (1 ≤ x.cols.length) && (decide (x.cols.length ≤ 5) && x.cols.all ACol.ok)))) ∧ Below p.W.heap.size p.W w' := fun p => table_ok x.nm a1 c1 x.cols p.W p.ok.2.2 HF.out.1 HF.out.2.2.1.1 HF.out.2.2.1.2
  have hact : ∀ p : Over (DeedIn w x a0 c0 a1 c1), Calls Tryz.prog 60 #[.agg #[.string x.nm, .slice a1 x.cols.length c1]] p.W fun e w' => e = .returned (.agg #[.int .i64 1, .string x.nm, .int .i64 0, .slice none 0 0, .slice a1 x.cols.length c1, .int .i64 0, .string ⟨#[]⟩, .string ⟨#[]⟩, .string ⟨#[]⟩, .int .i64 0, .bool false, .bool false, .int .i64 0, .int .i64 0, .string ⟨#[]⟩, .string ⟨#[]⟩, .string ⟨#[]⟩, .string ⟨#[]⟩, .int .i64 0]) ∧ Below p.W.heap.size p.W w' := fun p => table_act x.nm a1 x.cols.length c1 p.W
  have hsam : ∀ p : Over (DeedIn w x a0 c0 a1 c1), Calls Tryz.prog 35 #[.agg #[.int .i64 1, .string x.nm, .int .i64 0, .slice none 0 0, .slice a1 x.cols.length c1, .int .i64 0, .string ⟨#[]⟩, .string ⟨#[]⟩, .string ⟨#[]⟩, .int .i64 0, .bool false, .bool false, .int .i64 0, .int .i64 0, .string ⟨#[]⟩, .string ⟨#[]⟩, .string ⟨#[]⟩, .string ⟨#[]⟩, .int .i64 0], .agg #[.int .i64 x.kd, .string x.nm, .int .i64 x.id, .slice a0 x.sets.length c0, .slice a1 x.cols.length c1, .int .i64 x.g.kd, .string x.g.nm, .string x.g.nw, .string x.g.c.nm, .int .i64 x.g.c.kd, .bool x.g.c.nd, .bool x.g.c.oc, .int .i64 x.g.c.k, .int .i64 x.g.c.n, .string x.g.c.s, .string x.l.fr, .string x.l.co, .string x.l.tt, .int .i64 x.l.hw]] p.W fun e w' => e = .returned (.bool (actSame (⟨1, x.nm, 0, [], x.cols, chg0, lnk0⟩) x)) ∧ Below p.W.heap.size p.W w' := fun p => act_same (⟨1, x.nm, 0, [], x.cols, chg0, lnk0⟩) x none a1 a0 a1 0 c1 c0 c1 p.W ⟨Or.inl rfl, p.ok.2.2⟩ p.ok.2 ⟨by simp, HF.out.2.2.1.2, HF.out.2.1.2, HF.out.2.2.1.2⟩
  cases hok : (nameOk x.nm && (decide (1 ≤ x.cols.length) && (decide (x.cols.length ≤ 5) && x.cols.all ACol.ok)))
  case false =>
    rw [hok] at hcon
    go_enter Tryz.func23, Tryz.ntmps23
    go_wp2_with fail
    refine wp_region_over (S := DeedIn w x a0 c0 a1 c1) (by kernel_rfl) (by kernel_rfl) (HS.out.next (Below.refl _ _).drew) ?_
    repeat (first | (refine quiet_ld rfl _ rfl _ rfl _ G0.out rfl _ rfl ?_; simp only [Act.put, List.setIfInBounds_toArray, List.set_cons_succ, List.set_cons_zero]) | go_big_quiet_step (first | exact over_call (hcon _) (fun _ h => DeedIn.next (Over.ok _) h) | exact over_call (hact _) (fun _ h => DeedIn.next (Over.ok _) h) | exact over_call (hsam _) (fun _ h => DeedIn.next (Over.ok _) h)))
    refine wpQuiet_nil ?_
    rintro wq ⟨pp, hp⟩
    have hZ := pp.ok
    rw [← hp] at hZ
    have hK : Hid (Below w.heap.size w wq) := hZ.1.2.2
    clear hp pp G0 inh hZ hcon hact hsam
    go_wp2_with fail
    go_ret2
    exact ⟨⟨_, rfl⟩, hK.out⟩
  case true =>
    rw [hok] at hcon
    go_enter Tryz.func23, Tryz.ntmps23
    go_wp2_with fail
    refine wp_region_over (S := DeedIn w x a0 c0 a1 c1) (by kernel_rfl) (by kernel_rfl) (HS.out.next (Below.refl _ _).drew) ?_
    repeat (first | (refine quiet_ld rfl _ rfl _ rfl _ G0.out rfl _ rfl ?_; simp only [Act.put, List.setIfInBounds_toArray, List.set_cons_succ, List.set_cons_zero]) | go_big_quiet_step (first | exact over_call (hcon _) (fun _ h => DeedIn.next (Over.ok _) h) | exact over_call (hact _) (fun _ h => DeedIn.next (Over.ok _) h) | exact over_call (hsam _) (fun _ h => DeedIn.next (Over.ok _) h)))
    refine wpQuiet_nil ?_
    rintro wq ⟨pp, hp⟩
    have hZ := pp.ok
    rw [← hp] at hZ
    have hK : Hid (Below w.heap.size w wq) := hZ.1.2.2
    clear hp pp G0 inh hZ hcon hact hsam
    go_wp2_with fail
    go_ret2
    exact ⟨⟨_, rfl⟩, hK.out⟩

set_option maxRecDepth 100000 in
set_option maxHeartbeats 4000000 in
theorem deed_link (x : AAct) (a0 a1 : Option Addr) (c0 c1 : Nat) (w : World) (hT : ActAt w a0 a1 x) (hf : x.fit) (h2 : (x.kd == 2) = true) :
    Calls Tryz.prog 23 #[.agg #[.int .i64 x.kd, .string x.nm, .int .i64 x.id, .slice a0 x.sets.length c0, .slice a1 x.cols.length c1, .int .i64 x.g.kd, .string x.g.nm, .string x.g.nw, .string x.g.c.nm, .int .i64 x.g.c.kd, .bool x.g.c.nd, .bool x.g.c.oc, .int .i64 x.g.c.k, .int .i64 x.g.c.n, .string x.g.c.s, .string x.l.fr, .string x.l.co, .string x.l.tt, .int .i64 x.l.hw]] w fun e w' => (∃ v, e = .returned (.tuple #[v, .bool (implAct x)])) ∧ Below w.heap.size w w' := by
  have hS : DeedIn w x a0 c0 a1 c1 (w.alloc (.cells #[.int .i64 x.kd, .string x.nm, .int .i64 x.id, .slice a0 x.sets.length c0, .slice a1 x.cols.length c1, .int .i64 x.g.kd, .string x.g.nm, .string x.g.nw, .string x.g.c.nm, .int .i64 x.g.c.kd, .bool x.g.c.nd, .bool x.g.c.oc, .int .i64 x.g.c.k, .int .i64 x.g.c.n, .string x.g.c.s, .string x.l.fr, .string x.l.co, .string x.l.tt, .int .i64 x.l.hw] 45)) := DeedIn.start x a0 a1 c0 c1 w hT
  have HS : Hid (DeedIn w x a0 c0 a1 c1 (w.alloc (.cells #[.int .i64 x.kd, .string x.nm, .int .i64 x.id, .slice a0 x.sets.length c0, .slice a1 x.cols.length c1, .int .i64 x.g.kd, .string x.g.nm, .string x.g.nw, .string x.g.c.nm, .int .i64 x.g.c.kd, .bool x.g.c.nd, .bool x.g.c.oc, .int .i64 x.g.c.k, .int .i64 x.g.c.n, .string x.g.c.s, .string x.l.fr, .string x.l.co, .string x.l.tt, .int .i64 x.l.hw] 45))) := hS
  clear hS
  have HF : Hid x.fit := hf
  clear hf hT
  have inh : Nonempty (Over (DeedIn w x a0 c0 a1 c1)) := ⟨⟨_, HS.out⟩⟩
  have g0 : ∀ W, (∃ p : Over (DeedIn w x a0 c0 a1 c1), W = p.W) → W.rangeAt w.heap.size 0 [.int .i64 x.kd, .string x.nm, .int .i64 x.id, .slice a0 x.sets.length c0, .slice a1 x.cols.length c1, .int .i64 x.g.kd, .string x.g.nm, .string x.g.nw, .string x.g.c.nm, .int .i64 x.g.c.kd, .bool x.g.c.nd, .bool x.g.c.oc, .int .i64 x.g.c.k, .int .i64 x.g.c.n, .string x.g.c.s, .string x.l.fr, .string x.l.co, .string x.l.tt, .int .i64 x.l.hw] := fun W ⟨p, e⟩ => e ▸ p.ok.1.1
  have G0 : Hid (∀ W, (∃ p : Over (DeedIn w x a0 c0 a1 c1), W = p.W) → W.rangeAt w.heap.size 0 [.int .i64 x.kd, .string x.nm, .int .i64 x.id, .slice a0 x.sets.length c0, .slice a1 x.cols.length c1, .int .i64 x.g.kd, .string x.g.nm, .string x.g.nw, .string x.g.c.nm, .int .i64 x.g.c.kd, .bool x.g.c.nd, .bool x.g.c.oc, .int .i64 x.g.c.k, .int .i64 x.g.c.n, .string x.g.c.s, .string x.l.fr, .string x.l.co, .string x.l.tt, .int .i64 x.l.hw]) := g0
  clear g0
  have hm1 := m_link_ok x.l
  have hm2 := m_link_act x.l
  have hv : implAct x = (nameOk x.l.fr && (nameOk x.l.co && (nameOk x.l.tt && howOk x.l.hw)) && actSame (⟨2, ⟨#[]⟩, 0, [], [], chg0, x.l⟩) x) := by simp [implAct, implDeed, deedAct, beq_iff_eq.1 h2]
  rw [hv]
  have h1 : (x.kd == 1) = false := by simp [beq_iff_eq.1 h2]
  have hcon : ∀ p : Over (DeedIn w x a0 c0 a1 c1), Calls Tryz.prog 73 #[.agg #[.string x.l.fr, .string x.l.co, .string x.l.tt, .int .i64 x.l.hw]] p.W fun e w' => e = .returned (.bool (nameOk x.l.fr && (nameOk x.l.co && (nameOk x.l.tt && howOk x.l.hw)))) ∧ Below p.W.heap.size p.W w' := fun p => link_ok x.l p.W HF.out.2.2.2.2
  have hact : ∀ p : Over (DeedIn w x a0 c0 a1 c1), Calls Tryz.prog 71 #[.agg #[.string x.l.fr, .string x.l.co, .string x.l.tt, .int .i64 x.l.hw]] p.W fun e w' => e = .returned (.agg #[.int .i64 2, .string ⟨#[]⟩, .int .i64 0, .slice none 0 0, .slice none 0 0, .int .i64 0, .string ⟨#[]⟩, .string ⟨#[]⟩, .string ⟨#[]⟩, .int .i64 0, .bool false, .bool false, .int .i64 0, .int .i64 0, .string ⟨#[]⟩, .string x.l.fr, .string x.l.co, .string x.l.tt, .int .i64 x.l.hw]) ∧ Below p.W.heap.size p.W w' := fun p => link_act x.l p.W
  have hsam : ∀ p : Over (DeedIn w x a0 c0 a1 c1), Calls Tryz.prog 35 #[.agg #[.int .i64 2, .string ⟨#[]⟩, .int .i64 0, .slice none 0 0, .slice none 0 0, .int .i64 0, .string ⟨#[]⟩, .string ⟨#[]⟩, .string ⟨#[]⟩, .int .i64 0, .bool false, .bool false, .int .i64 0, .int .i64 0, .string ⟨#[]⟩, .string x.l.fr, .string x.l.co, .string x.l.tt, .int .i64 x.l.hw], .agg #[.int .i64 x.kd, .string x.nm, .int .i64 x.id, .slice a0 x.sets.length c0, .slice a1 x.cols.length c1, .int .i64 x.g.kd, .string x.g.nm, .string x.g.nw, .string x.g.c.nm, .int .i64 x.g.c.kd, .bool x.g.c.nd, .bool x.g.c.oc, .int .i64 x.g.c.k, .int .i64 x.g.c.n, .string x.g.c.s, .string x.l.fr, .string x.l.co, .string x.l.tt, .int .i64 x.l.hw]] p.W fun e w' => e = .returned (.bool (actSame (⟨2, ⟨#[]⟩, 0, [], [], chg0, x.l⟩) x)) ∧ Below p.W.heap.size p.W w' := fun p => act_same (⟨2, ⟨#[]⟩, 0, [], [], chg0, x.l⟩) x none none a0 a1 0 0 c0 c1 p.W ⟨Or.inl rfl, Or.inl rfl⟩ p.ok.2 ⟨by simp, by simp, HF.out.2.1.2, HF.out.2.2.1.2⟩
  cases hok : (nameOk x.l.fr && (nameOk x.l.co && (nameOk x.l.tt && howOk x.l.hw)))
  case false =>
    rw [hok] at hcon
    go_enter Tryz.func23, Tryz.ntmps23
    go_wp2_with fail
    refine wp_region_over (S := DeedIn w x a0 c0 a1 c1) (by kernel_rfl) (by kernel_rfl) (HS.out.next (Below.refl _ _).drew) ?_
    repeat (first | (refine quiet_ld rfl _ rfl _ rfl _ G0.out rfl _ rfl ?_; simp only [Act.put, List.setIfInBounds_toArray, List.set_cons_succ, List.set_cons_zero]) | go_big_quiet_step (first | exact over_call (hcon _) (fun _ h => DeedIn.next (Over.ok _) h) | exact over_call (hact _) (fun _ h => DeedIn.next (Over.ok _) h) | exact over_call (hsam _) (fun _ h => DeedIn.next (Over.ok _) h)))
    refine wpQuiet_nil ?_
    rintro wq ⟨pp, hp⟩
    have hZ := pp.ok
    rw [← hp] at hZ
    have hK : Hid (Below w.heap.size w wq) := hZ.1.2.2
    clear hp pp G0 inh hZ hcon hact hsam
    go_wp2_with fail
    go_ret2
    exact ⟨⟨_, rfl⟩, hK.out⟩
  case true =>
    rw [hok] at hcon
    go_enter Tryz.func23, Tryz.ntmps23
    go_wp2_with fail
    refine wp_region_over (S := DeedIn w x a0 c0 a1 c1) (by kernel_rfl) (by kernel_rfl) (HS.out.next (Below.refl _ _).drew) ?_
    repeat (first | (refine quiet_ld rfl _ rfl _ rfl _ G0.out rfl _ rfl ?_; simp only [Act.put, List.setIfInBounds_toArray, List.set_cons_succ, List.set_cons_zero]) | go_big_quiet_step (first | exact over_call (hcon _) (fun _ h => DeedIn.next (Over.ok _) h) | exact over_call (hact _) (fun _ h => DeedIn.next (Over.ok _) h) | exact over_call (hsam _) (fun _ h => DeedIn.next (Over.ok _) h)))
    refine wpQuiet_nil ?_
    rintro wq ⟨pp, hp⟩
    have hZ := pp.ok
    rw [← hp] at hZ
    have hK : Hid (Below w.heap.size w wq) := hZ.1.2.2
    clear hp pp G0 inh hZ hcon hact hsam
    go_wp2_with fail
    go_ret2
    exact ⟨⟨_, rfl⟩, hK.out⟩

end Go.Proofs.YtacindondkcaiaaGreat
