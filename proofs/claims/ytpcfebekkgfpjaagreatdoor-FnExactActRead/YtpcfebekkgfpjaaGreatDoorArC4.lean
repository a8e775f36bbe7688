/- The contract of impl.ActRead, over the seat's translation. -/
import Derived.Test.YtpcfebekkgfpjaaGreatDoorArC3
import Derived.Test.YtpcfebekkgfpjaaGreatDoorArP3
import Derived.Test.YtpcfebekkgfpjaaGreatDoorAcI3
import Derived.Deep.Upon
namespace Go.Proofs.YtpcfebekkgfpjaaGreatDoor
open Go.RowKit

theorem n_table_ok (nm : ByteArray) (a : Option Addr) (n cap : Nat) (w : World) : (method 517 83 (.agg #[.string nm, .slice a n cap]) "loop.example/custumal/impl.ok").run Tryz.prog w = .ok (218, .agg #[.string nm, .slice a n cap]) w := by kernel_rfl
theorem n_table_act (nm : ByteArray) (a : Option Addr) (n cap : Nat) (w : World) : (method 517 83 (.agg #[.string nm, .slice a n cap]) "loop.example/custumal/impl.act").run Tryz.prog w = .ok (216, .agg #[.string nm, .slice a n cap]) w := by kernel_rfl
theorem n_link_ok (l : ALnk) (w : World) : (method 517 85 (.agg #[.string l.fr, .string l.co, .string l.tt, .int .i64 l.hw]) "loop.example/custumal/impl.ok").run Tryz.prog w = .ok (231, .agg #[.string l.fr, .string l.co, .string l.tt, .int .i64 l.hw]) w := by kernel_rfl
theorem n_link_act (l : ALnk) (w : World) : (method 517 85 (.agg #[.string l.fr, .string l.co, .string l.tt, .int .i64 l.hw]) "loop.example/custumal/impl.act").run Tryz.prog w = .ok (229, .agg #[.string l.fr, .string l.co, .string l.tt, .int .i64 l.hw]) w := by kernel_rfl
theorem n_put_ok (nm : ByteArray) (a : Option Addr) (n cap : Nat) (w : World) : (method 517 87 (.agg #[.string nm, .slice a n cap]) "loop.example/custumal/impl.ok").run Tryz.prog w = .ok (235, .agg #[.string nm, .slice a n cap]) w := by kernel_rfl
theorem n_put_act (nm : ByteArray) (a : Option Addr) (n cap : Nat) (w : World) : (method 517 87 (.agg #[.string nm, .slice a n cap]) "loop.example/custumal/impl.act").run Tryz.prog w = .ok (233, .agg #[.string nm, .slice a n cap]) w := by kernel_rfl
theorem n_setd_ok (nm : ByteArray) (id : Int) (a : Option Addr) (n cap : Nat) (w : World) : (method 517 89 (.agg #[.string nm, .int .i64 id, .slice a n cap]) "loop.example/custumal/impl.ok").run Tryz.prog w = .ok (244, .agg #[.string nm, .int .i64 id, .slice a n cap]) w := by kernel_rfl
theorem n_setd_act (nm : ByteArray) (id : Int) (a : Option Addr) (n cap : Nat) (w : World) : (method 517 89 (.agg #[.string nm, .int .i64 id, .slice a n cap]) "loop.example/custumal/impl.act").run Tryz.prog w = .ok (242, .agg #[.string nm, .int .i64 id, .slice a n cap]) w := by kernel_rfl
theorem n_off_ok (nm : ByteArray) (id : Int) (w : World) : (method 517 91 (.agg #[.string nm, .int .i64 id]) "loop.example/custumal/impl.ok").run Tryz.prog w = .ok (249, .agg #[.string nm, .int .i64 id]) w := by kernel_rfl
theorem n_off_act (nm : ByteArray) (id : Int) (w : World) : (method 517 91 (.agg #[.string nm, .int .i64 id]) "loop.example/custumal/impl.act").run Tryz.prog w = .ok (247, .agg #[.string nm, .int .i64 id]) w := by kernel_rfl
theorem n_add_ok (nm : ByteArray) (c : ACol) (w : World) : (method 517 105 (.agg #[.string nm, .string c.nm, .int .i64 c.kd, .bool c.nd, .bool c.oc, .int .i64 c.k, .int .i64 c.n, .string c.s]) "loop.example/custumal/impl.ok").run Tryz.prog w = .ok (253, .agg #[.string nm, .string c.nm, .int .i64 c.kd, .bool c.nd, .bool c.oc, .int .i64 c.k, .int .i64 c.n, .string c.s]) w := by kernel_rfl
theorem n_add_act (nm : ByteArray) (c : ACol) (w : World) : (method 517 105 (.agg #[.string nm, .string c.nm, .int .i64 c.kd, .bool c.nd, .bool c.oc, .int .i64 c.k, .int .i64 c.n, .string c.s]) "loop.example/custumal/impl.act").run Tryz.prog w = .ok (251, .agg #[.string nm, .string c.nm, .int .i64 c.kd, .bool c.nd, .bool c.oc, .int .i64 c.k, .int .i64 c.n, .string c.s]) w := by kernel_rfl
theorem n_drop_ok (nm co : ByteArray) (w : World) : (method 517 107 (.agg #[.string nm, .string co]) "loop.example/custumal/impl.ok").run Tryz.prog w = .ok (258, .agg #[.string nm, .string co]) w := by kernel_rfl
theorem n_drop_act (nm co : ByteArray) (w : World) : (method 517 107 (.agg #[.string nm, .string co]) "loop.example/custumal/impl.act").run Tryz.prog w = .ok (256, .agg #[.string nm, .string co]) w := by kernel_rfl
theorem n_named_ok (nm co tt : ByteArray) (w : World) : (method 517 109 (.agg #[.string nm, .string co, .string tt]) "loop.example/custumal/impl.ok").run Tryz.prog w = .ok (262, .agg #[.string nm, .string co, .string tt]) w := by kernel_rfl
theorem n_named_act (nm co tt : ByteArray) (w : World) : (method 517 109 (.agg #[.string nm, .string co, .string tt]) "loop.example/custumal/impl.act").run Tryz.prog w = .ok (260, .agg #[.string nm, .string co, .string tt]) w := by kernel_rfl
theorem n_kindd_ok (nm co : ByteArray) (k : Int) (w : World) : (method 517 111 (.agg #[.string nm, .string co, .int .i64 k]) "loop.example/custumal/impl.ok").run Tryz.prog w = .ok (266, .agg #[.string nm, .string co, .int .i64 k]) w := by kernel_rfl
theorem n_kindd_act (nm co : ByteArray) (k : Int) (w : World) : (method 517 111 (.agg #[.string nm, .string co, .int .i64 k]) "loop.example/custumal/impl.act").run Tryz.prog w = .ok (264, .agg #[.string nm, .string co, .int .i64 k]) w := by kernel_rfl

theorem actv0 {w W : World} (h : Below w.heap.size w W) : ActV w W act0 (.agg #[.int .i64 0, .string ⟨#[]⟩, .int .i64 0, .slice none 0 0, .slice none 0 0, .int .i64 0, .string ⟨#[]⟩, .string ⟨#[]⟩, .string ⟨#[]⟩, .int .i64 0, .bool false, .bool false, .int .i64 0, .int .i64 0, .string ⟨#[]⟩, .string ⟨#[]⟩, .string ⟨#[]⟩, .string ⟨#[]⟩, .int .i64 0]) :=
  ⟨_, _, rfl, ⟨rfl, Or.inl ⟨rfl, rfl⟩⟩, ⟨rfl, Or.inl ⟨rfl, rfl⟩⟩, h⟩

/-- What lies there while a text is read: the answer's box, the table; and W lies over w. -/
structure ReadS (w : World) (m : Int) (W : World) : Prop where
  th : W.there w.heap.size 0 19
  lt : w.heap.size < W.heap.size
  bl : Below w.heap.size w W
  tb : Tb W
  mx : Mx m W
theorem ReadS.next {w : World} {m : Int} {W W' : World} (h : ReadS w m W) (hb : Below W.heap.size W W') : ReadS w m W' :=
  ⟨there_next h.th h.lt hb, Nat.lt_of_lt_of_le h.lt hb.size, h.bl.trans (hb.mono h.bl.size), tb_next h.tb hb, h.mx.next hb⟩

theorem results_cell2 {fn : Func} {t s : Tmp} {ty : TypeId} (h : fn.results = #[.cell t ty, .tmp s]) {tmps : Array Value} {P : Program} {w : World} {p : Addr} {v b : Value} (hp : tmps.getD t undef = .pointer (some p)) (hs : tmps.getD s undef = b) (hl : (loadVar ty p).run P w = .ok v w) :
    (results fn tmps).run P w = .ok (.tuple #[v, b]) w := by
  have hp' : tmps[t]?.getD undef = .pointer (some p) := by simpa using hp
  have hs' : tmps[s]?.getD undef = b := by simpa using hs
  simp only [results, h]
  simp [hp', hs', asAddr, hl]
abbrev zeros : List Value := [.int .i64 0, .string ⟨#[]⟩, .int .i64 0, .slice none 0 0, .slice none 0 0, .int .i64 0, .string ⟨#[]⟩, .string ⟨#[]⟩, .string ⟨#[]⟩, .int .i64 0, .bool false, .bool false, .int .i64 0, .int .i64 0, .string ⟨#[]⟩, .string ⟨#[]⟩, .string ⟨#[]⟩, .string ⟨#[]⟩, .int .i64 0]
theorem read_none {w w1 : World} {m : Int} {t : ByteArray} {a : Act} (H : ReadS w m w1) (hn : ∀ y, implDeed y = true → actT y ≠ t.data.toList) (h2 : a.tmps.getD 2 undef = .pointer (some ⟨w.heap.size, 0, none⟩)) (h3 : a.tmps.getD 3 undef = .bool false) (hd : a.defers = []) :
    bodyPost Tryz.prog Tryz.f7 (fun e w' => ∃ x b v, e = .returned (.tuple #[v, .bool b]) ∧ ActV w w' x v ∧ ActIs t.data.toList x b) .ret a (w1.setCells w.heap.size 0 zeros) :=
  bodyPost_ret (results_cell2 Tryz.results7 h2 h3 (run_loadVar_mid _ _ 0 _ _ _ (World.rangeAt_setCells_same _ _ _ zeros H.th) Tryz.underlying34 rfl (by rw [act_size]; rfl))) hd ⟨act0, false, _, rfl, actv0 (below_put H.bl (Nat.le_refl _) 0 zeros), Or.inr ⟨rfl, rfl, hn⟩⟩

/-- Two words and the others behind them lie there. -/
abbrev TextS (w : World) (m : Int) (B0 : Nat) (verb nm : ByteArray) (ws : List ByteArray) (W : World) : Prop :=
  W.cell? ⟨B0, 0, none⟩ = some (.string verb) ∧ W.cell? ⟨B0, 1, none⟩ = some (.string nm) ∧ Hid (ReadS w m W ∧ StrsAt W (some ⟨B0, 0, none⟩) (verb :: nm :: ws) ∧ B0 < W.heap.size)
theorem texts_next {w : World} {m : Int} {B0 : Nat} {verb nm : ByteArray} {ws : List ByteArray} {W W' : World} (h : TextS w m B0 verb nm ws W) (hb : Below W.heap.size W W') : TextS w m B0 verb nm ws W' := by
  obtain ⟨h0, h1, hR, hS, hl⟩ := h
  have hc := fun x => (bcell hb).1 B0 x hl
  exact ⟨by rw [hc]; exact h0, by rw [hc]; exact h1, hR.next hb, hS.keep hb, Nat.lt_of_lt_of_le hl hb.size⟩
theorem texts_drew {w : World} {m : Int} {B0 : Nat} {verb nm : ByteArray} {ws : List ByteArray} {W : World} (h : TextS w m B0 verb nm ws W) : TextS w m B0 verb nm ws W.drew := texts_next h (Below.refl _ _).drew
theorem texts_rest {W : World} {B0 : Nat} {verb nm : ByteArray} {ws : List ByteArray} (h : StrsAt W (some ⟨B0, 0, none⟩) (verb :: nm :: ws)) : StrsAt W (some ⟨B0, 2, none⟩) ws := by
  rcases h with h | ⟨b, o, h, hl, hr⟩
  · cases h
  · cases h
    refine Or.inr ⟨B0, 2, rfl, hl, fun i x hx => ?_⟩
    have := hr (i + 2) x (by simpa using hx)
    rwa [show 0 + (i + 2) = 2 + i by omega] at this
theorem deed_here {w : World} {m : Int} {B0 : Nat} {verb nm : ByteArray} {ws : List ByteArray} {W : World} (a : Option Addr) (cap : Nat) (D : TextS w m B0 verb nm ws W) (ha : ws = [] ∨ a = some ⟨B0, 2, none⟩) (hcap : ws.length ≤ cap) (hs : ∀ y ∈ verb :: nm :: ws, y.size ≤ 1048576) (hm : ws.length ≤ 2000000) :
    Calls Tryz.prog 20 #[.string verb, .string nm, .slice a ws.length cap] W fun e w' => ∃ v, e = .returned v ∧ Hid (∃ W0 : World, w.heap.size < W0.heap.size ∧ DeedRd W0 verb nm ws v w') ∧ Below W.heap.size W w' := by
  obtain ⟨_, _, hR, hS, _⟩ := D
  refine (read_deed m verb nm a cap ws W ?_ hcap (hs nm (by simp)) (fun y hy => hs y (by simp [hy])) hm hR.tb hR.mx).mono ?_
  · rcases ha with rfl | rfl
    · exact Or.inl rfl
    · exact texts_rest hS
  · rintro e w' ⟨v, rfl, hD⟩
    refine ⟨v, rfl, ⟨W, hR.lt, hD⟩, ?_⟩
    rcases hD with ⟨_, h, _⟩ | ⟨_, ⟨h, _⟩, _⟩ <;> exact h

theorem own_apart {W : World} {base b : Nat} {e : TypeId} {size : Nat} {v : Value} {n : Nat} {xs : List Value} (h : W.ownsRow base e size v n xs) (hb : b < base) (o : Nat) (cs : List Value) : (W.setCells b o cs).ownsRow b e size v n xs := by
  refine ⟨h.1, ?_⟩
  rcases h.2 with h2 | ⟨g, cap, cur, hv, hg, hh, hr⟩
  · exact Or.inl h2
  · exact Or.inr ⟨g, cap, cur, hv, by omega, by rw [World.heap_setCells_other W b o cs (blk_lt hh) (by omega)]; exact hh, hr⟩
theorem own_none (W : World) (b : Nat) (e : TypeId) (size : Nat) : W.ownsRow b e size (.slice none 0 0) 0 [] := ⟨by simp, Or.inl ⟨rfl, rfl⟩⟩
theorem read_some {w w1 : World} {m : Int} {t : ByteArray} {a : Act} {x : AAct} {u c : Value} (H : ReadS w m w1) {B : Nat} (hB : w.heap.size < B) (hu : w1.ownsRow B 102 4 u x.sets.length (x.sets.flatMap ASet.cells)) (hc : w1.ownsRow B 28 7 c x.cols.length (x.cols.flatMap ACol.cells))
    (hi : ActIs t.data.toList x true) (h2 : a.tmps.getD 2 undef = .pointer (some ⟨w.heap.size, 0, none⟩)) (h3 : a.tmps.getD 3 undef = .bool true) (hd : a.defers = []) :
    bodyPost Tryz.prog Tryz.f7 (fun e w' => ∃ x b v, e = .returned (.tuple #[v, .bool b]) ∧ ActV w w' x v ∧ ActIs t.data.toList x b) .ret a (w1.setCells w.heap.size 0 [.int .i64 x.kd, .string x.nm, .int .i64 x.id, u, c, .int .i64 x.g.kd, .string x.g.nm, .string x.g.nw, .string x.g.c.nm, .int .i64 x.g.c.kd, .bool x.g.c.nd, .bool x.g.c.oc, .int .i64 x.g.c.k, .int .i64 x.g.c.n, .string x.g.c.s, .string x.l.fr, .string x.l.co, .string x.l.tt, .int .i64 x.l.hw]) :=
  bodyPost_ret (results_cell2 Tryz.results7 h2 h3 (run_loadVar_mid _ _ 0 _ _ _ (World.rangeAt_setCells_same _ _ _ _ H.th) Tryz.underlying34 rfl (by rw [act_size]; rfl))) hd ⟨x, true, _, rfl, ⟨u, c, rfl, own_apart hu hB 0 _, own_apart hc hB 0 _, below_put H.bl (Nat.le_refl _) 0 _⟩, hi⟩
theorem flat_k {α : Type} (k : Nat) (cells : α → List Value) (hk : ∀ c, (cells c).length = k) (L : List α) (i j : Nat) (c : α) (v : Value) (hc : L[i]? = some c) (hv : (cells c)[j]? = some v) : (L.flatMap cells)[i * k + j]? = some v := by
  induction L generalizing i with
  | nil => simp at hc
  | cons d L ih =>
    have hl := hk d
    rw [List.flatMap_cons]
    cases i with
    | zero =>
      simp at hc
      subst hc
      have hj : j < (cells d).length := (List.getElem?_eq_some_iff.1 hv).1
      rw [Nat.zero_mul, Nat.zero_add, List.getElem?_append_left hj]
      exact hv
    | succ i =>
      have e : (i + 1) * k = i * k + k := Nat.succ_mul _ _
      rw [List.getElem?_append_right (by omega), hl, show (i + 1) * k + j - k = i * k + j by omega]
      exact ih i (by simpa using hc)
theorem own_cols {W : World} {base : Nat} {v : Value} {L : List ACol} (h : W.ownsRow base 28 7 v L.length (L.flatMap ACol.cells)) : ∃ a cap, v = .slice a L.length cap ∧ ColsAt W a L := by
  rcases h.2 with ⟨h2, h3⟩ | ⟨b, cap, cur, rfl, hb, hblk, _⟩
  · have hL : L = [] := List.eq_nil_of_length_eq_zero h3
    subst hL
    exact ⟨none, 0, h2, Or.inl rfl⟩
  · refine ⟨_, cap, rfl, Or.inr ⟨b, 0, rfl, blk_lt hblk, fun i c hc j u hu => ?_⟩⟩
    have := World.ownsRow.cells (g := b) h rfl (i * 7 + j) u (flat_k 7 ACol.cells (fun _ => rfl) L i j c u hc hu)
    rw [Addr.add_mid, Nat.zero_add] at this
    rw [Nat.zero_add]
    exact this
theorem own_sets {W : World} {base : Nat} {v : Value} {L : List ASet} (h : W.ownsRow base 102 4 v L.length (L.flatMap ASet.cells)) : ∃ a cap, v = .slice a L.length cap ∧ SetsAt W a L := by
  rcases h.2 with ⟨h2, h3⟩ | ⟨b, cap, cur, rfl, hb, hblk, _⟩
  · have hL : L = [] := List.eq_nil_of_length_eq_zero h3
    subst hL
    exact ⟨none, 0, h2, Or.inl rfl⟩
  · refine ⟨_, cap, rfl, Or.inr ⟨b, 0, rfl, blk_lt hblk, fun i c hc j u hu => ?_⟩⟩
    have := World.ownsRow.cells (g := b) h rfl (i * 4 + j) u (flat_k 4 ASet.cells (fun _ => rfl) L i j c u hc hu)
    rw [Addr.add_mid, Nat.zero_add] at this
    rw [Nat.zero_add]
    exact this

set_option maxRecDepth 100000 in
set_option maxHeartbeats 4000000 in
theorem impl_act_read (m : Int) (t : ByteArray) (w : World) (ht : t.size ≤ 1048576) (htab : Tb w) (hM : Mx m w) :
    Calls Tryz.prog 7 #[.string t] w fun e w' => ∃ x b v, e = .returned (.tuple #[v, .bool b]) ∧ ActV w w' x v ∧ ActIs t.data.toList x b := by
  have HT : Hid (Tb w ∧ Mx m w) := ⟨htab, hM⟩
  clear htab hM
  have hcb : Lib.countB t ⟨#[32]⟩ ≤ 1048576 := Nat.le_trans (Lib.countB_le ⟨#[32]⟩ (by decide) _ t (Nat.le_refl _)) ht
  obtain ⟨ws, hws⟩ : ∃ ws, Lib.splitB ⟨#[32]⟩ 0 (Lib.countB t ⟨#[32]⟩) t = ws := ⟨_, rfl⟩
  have hlen : Lib.countB t ⟨#[32]⟩ + 1 = ws.length := by rw [← hws]; exact (Lib.splitB_all ⟨#[32]⟩ (by decide) 0 _ t rfl).symm
  have hcut : ws.map (·.data.toList) = cutB 32 t.data.toList := by rw [← hws]; exact split_bytes 32 t
  have hsz : ∀ x ∈ ws, x.size ≤ 1048576 := fun x hx => by
    have h := cutB_le 32 t.data.toList x.data.toList (by rw [← hcut]; exact List.mem_map.2 ⟨x, hx, rfl⟩)
    simp at h
    omega
  have HC : Hid (ws.map (·.data.toList) = cutB 32 t.data.toList ∧ (∀ x ∈ ws, x.size ≤ 1048576) ∧ ws.length ≤ 1048577) := ⟨hcut, hsz, by omega⟩
  have A0 : Below w.heap.size w (w.alloc (.cells #[.int .i64 0, .string ⟨#[]⟩, .int .i64 0, .slice none 0 0, .slice none 0 0, .int .i64 0, .string ⟨#[]⟩, .string ⟨#[]⟩, .string ⟨#[]⟩, .int .i64 0, .bool false, .bool false, .int .i64 0, .int .i64 0, .string ⟨#[]⟩, .string ⟨#[]⟩, .string ⟨#[]⟩, .string ⟨#[]⟩, .int .i64 0] 34)) := (Below.refl _ _).alloc (Nat.le_refl _) _
  have H0 : Hid (ReadS w m (w.alloc (.cells #[.int .i64 0, .string ⟨#[]⟩, .int .i64 0, .slice none 0 0, .slice none 0 0, .int .i64 0, .string ⟨#[]⟩, .string ⟨#[]⟩, .string ⟨#[]⟩, .int .i64 0, .bool false, .bool false, .int .i64 0, .int .i64 0, .string ⟨#[]⟩, .string ⟨#[]⟩, .string ⟨#[]⟩, .string ⟨#[]⟩, .int .i64 0] 34))) := ⟨there_box w [.int .i64 0, .string ⟨#[]⟩, .int .i64 0, .slice none 0 0, .slice none 0 0, .int .i64 0, .string ⟨#[]⟩, .string ⟨#[]⟩, .string ⟨#[]⟩, .int .i64 0, .bool false, .bool false, .int .i64 0, .int .i64 0, .string ⟨#[]⟩, .string ⟨#[]⟩, .string ⟨#[]⟩, .string ⟨#[]⟩, .int .i64 0] 34 19 rfl, by simp, A0, tb_next HT.out.1 A0, HT.out.2.next A0⟩
  clear A0
  go_enter Tryz.func7, Tryz.ntmps7
  go_wp2_with fail
  generalize w.alloc (.cells #[.int .i64 0, .string ⟨#[]⟩, .int .i64 0, .slice none 0 0, .slice none 0 0, .int .i64 0, .string ⟨#[]⟩, .string ⟨#[]⟩, .string ⟨#[]⟩, .int .i64 0, .bool false, .bool false, .int .i64 0, .int .i64 0, .string ⟨#[]⟩, .string ⟨#[]⟩, .string ⟨#[]⟩, .string ⟨#[]⟩, .int .i64 0] 34) = W0 at *
  refine (Tryz.strings_Split t ⟨#[32]⟩ m _ (by omega) H0.out.mx.1 (by decide)).mono ?_
  rw [hws, hlen]
  rintro e w1 ⟨rfl, hw1⟩
  have H1 : Hid (ReadS w m w1 ∧ StrsAt w1 (some ⟨W0.heap.size, 0, none⟩) ws) := by
    rw [hw1]
    refine ⟨H0.out.next ((Below.refl _ _).alloc (Nat.le_refl _) _), Or.inr ⟨_, _, rfl, by simp, fun i x hx => ?_⟩⟩
    exact cell_blk (blk_new W0 _) (by simp [hx])
  clear H0 hw1 hws hlen hcb hcut hsz
  generalize W0.heap.size = B0 at *
  clear W0
  cases ws with
  | nil => 
    exact absurd HC.out.1.symm (cutB_ne _ _)
  | cons verb ws =>
  cases ws with
  | nil =>
    have HN : Hid (∀ y, implDeed y = true → actT y ≠ t.data.toList) := few_no (w := verb.data.toList) HC.out.1.symm
    have hth := H1.out.1.th
    simp only [List.length_cons, List.length_nil, Nat.zero_add]
    go_wp2_with (refine st_act rfl _ _ rfl _ rfl [.int .i64 0, .string ⟨#[]⟩, .int .i64 0, .slice none 0 0, .slice none 0 0, .int .i64 0, .string ⟨#[]⟩, .string ⟨#[]⟩, .string ⟨#[]⟩, .int .i64 0, .bool false, .bool false, .int .i64 0, .int .i64 0, .string ⟨#[]⟩, .string ⟨#[]⟩, .string ⟨#[]⟩, .string ⟨#[]⟩, .int .i64 0] rfl rfl hth (by simp [Value.oneCell']) ?_)
    exact read_none H1.out.1 HN.out rfl rfl rfl
  | cons nm ws =>
    have hsl : ∃ y0 y1, True := ⟨0, 0, trivial⟩
    have hc0 : w1.cell? ⟨B0, 0, none⟩ = some (.string verb) := by
      rcases H1.out.2 with h | ⟨b, o, h, _, hr⟩
      · cases h
      · cases h; exact hr 0 _ rfl
    have hc1 : w1.cell? ⟨B0, 1, none⟩ = some (.string nm) := by
      rcases H1.out.2 with h | ⟨b, o, h, _, hr⟩
      · cases h
      · cases h; exact hr 1 _ rfl
    have hl1 : (1 : Int) < (ws.length : Int) + 1 + 1 := by omega
    have hl2 : ¬ ((ws.length : Int) + 1 + 1 < 2) := by omega
    have hl3 : (2 : Int) ≤ (ws.length : Int) + 1 + 1 := by omega
    simp only [List.length_cons]
    have hT : TextS w m B0 verb nm ws w1 := ⟨hc0, hc1, H1.out.1, H1.out.2, by
      rcases H1.out.2 with h | ⟨b, o, h, hl, _⟩
      · cases h
      · cases h; exact hl⟩
    have hws : ws.length ≤ 2000000 := by have := HC.out.2.2; simp only [List.length_cons] at this; omega
    clear hc0 hc1
    clear hl1 hl2 hl3 hsl
    cases ws with
    | nil =>
      simp only [List.length_nil]
      go_wp2_with fail
      go_region_held3 (fun W => TextS w m B0 verb nm [] W) (first | assumption | exact texts_drew (by assumption)) (first
        | (go_at_call 20; refine (deed_here (ws := []) _ _ (by assumption) (Or.inl rfl) (by simp) HC.out.2.1 hws).mono ?_; rintro e w' ⟨v, rfl, hD, hb⟩; have hN := texts_next (by assumption) hb; clear hb))
      have hth := hN.2.2.out.1.th
      rcases hD.out with ⟨W0, hW0, ⟨rfl, _, hno⟩ | ⟨x0, ⟨_, hx⟩, hfit, hrd⟩⟩
      · have HN : Hid (∀ y, implDeed y = true → actT y ≠ t.data.toList) := fun y hy e => hno y hy (by rw [← cut_act hy, e, ← HC.out.1]; rfl)
        go_wp2_with (refine st_act rfl _ _ rfl _ rfl zeros rfl rfl hth (by simp [Value.oneCell']) ?_)
        exact read_none hN.2.2.out.1 HN.out rfl rfl rfl
      have HRD : Hid (ActRd (verb.data.toList :: nm.data.toList :: (([] : List ByteArray)).map (·.data.toList)) x0 ∧ x0.fit) := ⟨hrd, hfit⟩
      have hcut : cutB 32 t.data.toList = verb.data.toList :: nm.data.toList :: (([] : List ByteArray)).map (·.data.toList) := HC.out.1.symm
      have HCT : Hid (cutB 32 t.data.toList = verb.data.toList :: nm.data.toList :: (([] : List ByteArray)).map (·.data.toList)) := hcut
      clear hrd hfit hD hth hcut
      rcases hx with ⟨n1, L, u, rfl, rfl, hO⟩ | ⟨l, rfl, rfl⟩ | ⟨n1, L, u, rfl, rfl, hO⟩ | ⟨n1, id, L, u, rfl, rfl, hO⟩ | ⟨n1, id, rfl, rfl⟩ | ⟨n1, c, rfl, rfl⟩ | ⟨n1, co, rfl, rfl⟩ | ⟨n1, co, tt, rfl, rfl⟩ | ⟨n1, co, k, rfl, rfl⟩
      · obtain ⟨ad, cp, rfl, hAt⟩ := own_cols hO.1
        have HO : Hid (w'.ownsRow W0.heap.size 28 7 (.slice ad L.length cp) L.length (L.flatMap ACol.cells)) := hO.1
        clear hO
        have hmo := n_table_ok n1 ad L.length cp
        go_wp2_with fail
        refine (table_ok n1 ad cp L _ hAt HRD.out.2.1 HRD.out.2.2.2.1.1 HRD.out.2.2.2.1.2).mono ?_
        rintro e w3 ⟨rfl, hb⟩
        have hN3 := texts_next hN hb
        have HO3 : Hid (w3.ownsRow W0.heap.size 28 7 (.slice ad L.length cp) L.length (L.flatMap ACol.cells)) := own_keep HO.out hb
        have hA3 := hAt.keep hb
        clear HO hAt
        clear hb hmo hN
        cases hok : (nameOk n1 && (decide (1 ≤ L.length) && (decide (L.length ≤ 5) && L.all ACol.ok)))
        · have HNO : Hid (∀ y, implDeed y = true → actT y ≠ t.data.toList) := act_no HRD.out.1 HCT.out (Or.inl hok)
          have hth := hN3.2.2.out.1.th
          go_wp2_with (refine st_act rfl _ _ rfl _ rfl zeros rfl rfl hth (by simp [Value.oneCell']) ?_)
          exact read_none hN3.2.2.out.1 HNO.out rfl rfl rfl
        · have HI : Hid (implDeed ⟨1, n1, 0, [], L, chg0, lnk0⟩ = true) := hok
          have hS := hok
          simp only [Bool.and_eq_true, decide_eq_true_eq, List.all_eq_true] at hS
          have h20 := Nat.le_trans (words_le HI.out).1 (by decide : 8 ≤ 20)
          have h1k := Nat.le_trans (text_le HI.out) (by decide : 168 ≤ 1000)
          go_wp2_with fail
          refine (text_table n1 ad cp L _ hA3 hS.2.2.2 hS.2.2.1 hN3.2.2.out.1.tb h20 h1k).mono ?_
          rintro e w4 ⟨y, rfl, hy, hb⟩
          have hN4 := texts_next hN3 hb
          have HO4 : Hid (w4.ownsRow W0.heap.size 28 7 (.slice ad L.length cp) L.length (L.flatMap ACol.cells)) := own_keep HO3.out hb
          clear HO3 hA3
          have HY : Hid (y.data.toList = actT ⟨1, n1, 0, [], L, chg0, lnk0⟩) := hy
          clear hb hy hN3 hS h20 h1k
          cases heq : (y.toList == t.toList)
          · have HNO : Hid (∀ y, implDeed y = true → actT y ≠ t.data.toList) := act_no HRD.out.1 HCT.out (Or.inr (by rw [← HY.out]; exact not_list (beq_eq_false_iff_ne.1 heq)))
            have hth := hN4.2.2.out.1.th
            go_wp2_with (refine st_act rfl _ _ rfl _ rfl zeros rfl rfl hth (by simp [Value.oneCell']) ?_)
            exact read_none hN4.2.2.out.1 HNO.out rfl rfl rfl
          · have hma := n_table_act n1 ad L.length cp
            have HE : Hid (actT ⟨1, n1, 0, [], L, chg0, lnk0⟩ = t.data.toList) := by
              have h := list_of (beq_iff_eq.1 heq)
              rw [HY.out] at h
              exact h
            go_wp2_with fail
            refine (table_act n1 ad L.length cp _).mono ?_
            rintro e w5 ⟨rfl, hb⟩
            have hN5 := texts_next hN4 hb
            have HO5 : Hid (w5.ownsRow W0.heap.size 28 7 (.slice ad L.length cp) L.length (L.flatMap ACol.cells)) := own_keep HO4.out hb
            clear HO4
            clear hb hma hN4
            have hth := hN5.2.2.out.1.th
            go_wp2_with (refine st_act rfl _ _ rfl _ rfl [.int .i64 1, .string n1, .int .i64 0, .slice none 0 0, .slice ad L.length cp, .int .i64 0, .string ⟨#[]⟩, .string ⟨#[]⟩, .string ⟨#[]⟩, .int .i64 0, .bool false, .bool false, .int .i64 0, .int .i64 0, .string ⟨#[]⟩, .string ⟨#[]⟩, .string ⟨#[]⟩, .string ⟨#[]⟩, .int .i64 0] rfl rfl hth (by simp [Value.oneCell']) ?_)
            exact read_some (x := ⟨1, n1, 0, [], L, chg0, lnk0⟩) hN5.2.2.out.1 hW0 (own_none _ _ _ _) (HO5.out) (act_is HRD.out.1 HCT.out HI.out rfl HE.out) rfl rfl rfl
      · have hmo := n_link_ok l
        go_wp2_with fail
        refine (link_ok l _ HRD.out.2.2.2.2.2).mono ?_
        rintro e w3 ⟨rfl, hb⟩
        have hN3 := texts_next hN hb
        clear hb hmo hN
        cases hok : (nameOk l.fr && (nameOk l.co && (nameOk l.tt && howOk l.hw)))
        · have HNO : Hid (∀ y, implDeed y = true → actT y ≠ t.data.toList) := act_no HRD.out.1 HCT.out (Or.inl hok)
          have hth := hN3.2.2.out.1.th
          go_wp2_with (refine st_act rfl _ _ rfl _ rfl zeros rfl rfl hth (by simp [Value.oneCell']) ?_)
          exact read_none hN3.2.2.out.1 HNO.out rfl rfl rfl
        · have HI : Hid (implDeed ⟨2, ⟨#[]⟩, 0, [], [], chg0, l⟩ = true) := hok
          have hS := hok
          simp only [Bool.and_eq_true] at hS
          have h20 := Nat.le_trans (words_le HI.out).1 (by decide : 8 ≤ 20)
          have h1k := Nat.le_trans (text_le HI.out) (by decide : 168 ≤ 1000)
          go_wp2_with fail
          refine (text_link l _ hN3.2.2.out.1.tb h20 h1k).mono ?_
          rintro e w4 ⟨y, rfl, hy, hb⟩
          have hN4 := texts_next hN3 hb
          have HY : Hid (y.data.toList = actT ⟨2, ⟨#[]⟩, 0, [], [], chg0, l⟩) := hy
          clear hb hy hN3 hS h20 h1k
          cases heq : (y.toList == t.toList)
          · have HNO : Hid (∀ y, implDeed y = true → actT y ≠ t.data.toList) := act_no HRD.out.1 HCT.out (Or.inr (by rw [← HY.out]; exact not_list (beq_eq_false_iff_ne.1 heq)))
            have hth := hN4.2.2.out.1.th
            go_wp2_with (refine st_act rfl _ _ rfl _ rfl zeros rfl rfl hth (by simp [Value.oneCell']) ?_)
            exact read_none hN4.2.2.out.1 HNO.out rfl rfl rfl
          · have hma := n_link_act l
            have HE : Hid (actT ⟨2, ⟨#[]⟩, 0, [], [], chg0, l⟩ = t.data.toList) := by
              have h := list_of (beq_iff_eq.1 heq)
              rw [HY.out] at h
              exact h
            go_wp2_with fail
            refine (link_act l _).mono ?_
            rintro e w5 ⟨rfl, hb⟩
            have hN5 := texts_next hN4 hb
            clear hb hma hN4
            have hth := hN5.2.2.out.1.th
            go_wp2_with (refine st_act rfl _ _ rfl _ rfl [.int .i64 2, .string ⟨#[]⟩, .int .i64 0, .slice none 0 0, .slice none 0 0, .int .i64 0, .string ⟨#[]⟩, .string ⟨#[]⟩, .string ⟨#[]⟩, .int .i64 0, .bool false, .bool false, .int .i64 0, .int .i64 0, .string ⟨#[]⟩, .string l.fr, .string l.co, .string l.tt, .int .i64 l.hw] rfl rfl hth (by simp [Value.oneCell']) ?_)
            exact read_some (x := ⟨2, ⟨#[]⟩, 0, [], [], chg0, l⟩) hN5.2.2.out.1 hW0 (own_none _ _ _ _) (own_none _ _ _ _) (act_is HRD.out.1 HCT.out HI.out rfl HE.out) rfl rfl rfl
      · obtain ⟨ad, cp, rfl, hAt⟩ := own_sets hO.1
        have HO : Hid (w'.ownsRow W0.heap.size 102 4 (.slice ad L.length cp) L.length (L.flatMap ASet.cells)) := hO.1
        clear hO
        have hmo := n_put_ok n1 ad L.length cp
        go_wp2_with fail
        refine (put_ok n1 ad cp L _ hAt HRD.out.2.1 HRD.out.2.2.1.1 HRD.out.2.2.1.2).mono ?_
        rintro e w3 ⟨rfl, hb⟩
        have hN3 := texts_next hN hb
        have HO3 : Hid (w3.ownsRow W0.heap.size 102 4 (.slice ad L.length cp) L.length (L.flatMap ASet.cells)) := own_keep HO.out hb
        have hA3 := hAt.keep hb
        clear HO hAt
        clear hb hmo hN
        cases hok : (nameOk n1 && (decide (L.length ≤ 5) && L.all ASet.ok))
        · have HNO : Hid (∀ y, implDeed y = true → actT y ≠ t.data.toList) := act_no HRD.out.1 HCT.out (Or.inl hok)
          have hth := hN3.2.2.out.1.th
          go_wp2_with (refine st_act rfl _ _ rfl _ rfl zeros rfl rfl hth (by simp [Value.oneCell']) ?_)
          exact read_none hN3.2.2.out.1 HNO.out rfl rfl rfl
        · have HI : Hid (implDeed ⟨3, n1, 0, L, [], chg0, lnk0⟩ = true) := hok
          have hS := hok
          simp only [Bool.and_eq_true, decide_eq_true_eq, List.all_eq_true] at hS
          have h20 := Nat.le_trans (words_le HI.out).1 (by decide : 8 ≤ 20)
          have h1k := Nat.le_trans (text_le HI.out) (by decide : 168 ≤ 1000)
          go_wp2_with fail
          refine (text_put n1 ad cp L _ hA3 hS.2.2 hS.2.1 hN3.2.2.out.1.tb h20 h1k).mono ?_
          rintro e w4 ⟨y, rfl, hy, hb⟩
          have hN4 := texts_next hN3 hb
          have HO4 : Hid (w4.ownsRow W0.heap.size 102 4 (.slice ad L.length cp) L.length (L.flatMap ASet.cells)) := own_keep HO3.out hb
          clear HO3 hA3
          have HY : Hid (y.data.toList = actT ⟨3, n1, 0, L, [], chg0, lnk0⟩) := hy
          clear hb hy hN3 hS h20 h1k
          cases heq : (y.toList == t.toList)
          · have HNO : Hid (∀ y, implDeed y = true → actT y ≠ t.data.toList) := act_no HRD.out.1 HCT.out (Or.inr (by rw [← HY.out]; exact not_list (beq_eq_false_iff_ne.1 heq)))
            have hth := hN4.2.2.out.1.th
            go_wp2_with (refine st_act rfl _ _ rfl _ rfl zeros rfl rfl hth (by simp [Value.oneCell']) ?_)
            exact read_none hN4.2.2.out.1 HNO.out rfl rfl rfl
          · have hma := n_put_act n1 ad L.length cp
            have HE : Hid (actT ⟨3, n1, 0, L, [], chg0, lnk0⟩ = t.data.toList) := by
              have h := list_of (beq_iff_eq.1 heq)
              rw [HY.out] at h
              exact h
            go_wp2_with fail
            refine (put_act n1 ad L.length cp _).mono ?_
            rintro e w5 ⟨rfl, hb⟩
            have hN5 := texts_next hN4 hb
            have HO5 : Hid (w5.ownsRow W0.heap.size 102 4 (.slice ad L.length cp) L.length (L.flatMap ASet.cells)) := own_keep HO4.out hb
            clear HO4
            clear hb hma hN4
            have hth := hN5.2.2.out.1.th
            go_wp2_with (refine st_act rfl _ _ rfl _ rfl [.int .i64 3, .string n1, .int .i64 0, .slice ad L.length cp, .slice none 0 0, .int .i64 0, .string ⟨#[]⟩, .string ⟨#[]⟩, .string ⟨#[]⟩, .int .i64 0, .bool false, .bool false, .int .i64 0, .int .i64 0, .string ⟨#[]⟩, .string ⟨#[]⟩, .string ⟨#[]⟩, .string ⟨#[]⟩, .int .i64 0] rfl rfl hth (by simp [Value.oneCell']) ?_)
            exact read_some (x := ⟨3, n1, 0, L, [], chg0, lnk0⟩) hN5.2.2.out.1 hW0 (HO5.out) (own_none _ _ _ _) (act_is HRD.out.1 HCT.out HI.out rfl HE.out) rfl rfl rfl
      · obtain ⟨ad, cp, rfl, hAt⟩ := own_sets hO.1
        have HO : Hid (w'.ownsRow W0.heap.size 102 4 (.slice ad L.length cp) L.length (L.flatMap ASet.cells)) := hO.1
        clear hO
        have hmo := n_setd_ok n1 id ad L.length cp
        go_wp2_with fail
        refine (setd_ok n1 id ad cp L _ hAt HRD.out.2.1 HRD.out.2.2.1.1 HRD.out.2.2.1.2).mono ?_
        rintro e w3 ⟨rfl, hb⟩
        have hN3 := texts_next hN hb
        have HO3 : Hid (w3.ownsRow W0.heap.size 102 4 (.slice ad L.length cp) L.length (L.flatMap ASet.cells)) := own_keep HO.out hb
        have hA3 := hAt.keep hb
        clear HO hAt
        clear hb hmo hN
        cases hok : (nameOk n1 && (idOk id && (decide (L.length ≤ 5) && L.all ASet.ok)))
        · have HNO : Hid (∀ y, implDeed y = true → actT y ≠ t.data.toList) := act_no HRD.out.1 HCT.out (Or.inl hok)
          have hth := hN3.2.2.out.1.th
          go_wp2_with (refine st_act rfl _ _ rfl _ rfl zeros rfl rfl hth (by simp [Value.oneCell']) ?_)
          exact read_none hN3.2.2.out.1 HNO.out rfl rfl rfl
        · have HI : Hid (implDeed ⟨4, n1, id, L, [], chg0, lnk0⟩ = true) := hok
          have hS := hok
          simp only [Bool.and_eq_true, decide_eq_true_eq, List.all_eq_true] at hS
          have h20 := Nat.le_trans (words_le HI.out).1 (by decide : 8 ≤ 20)
          have h1k := Nat.le_trans (text_le HI.out) (by decide : 168 ≤ 1000)
          go_wp2_with fail
          refine (text_setd n1 id ad cp L _ hA3 hS.2.2.2 hS.2.2.1 (id_le hS.2.1).1 (id_le hS.2.1).2 hN3.2.2.out.1.tb h20 h1k).mono ?_
          rintro e w4 ⟨y, rfl, hy, hb⟩
          have hN4 := texts_next hN3 hb
          have HO4 : Hid (w4.ownsRow W0.heap.size 102 4 (.slice ad L.length cp) L.length (L.flatMap ASet.cells)) := own_keep HO3.out hb
          clear HO3 hA3
          have HY : Hid (y.data.toList = actT ⟨4, n1, id, L, [], chg0, lnk0⟩) := hy
          clear hb hy hN3 hS h20 h1k
          cases heq : (y.toList == t.toList)
          · have HNO : Hid (∀ y, implDeed y = true → actT y ≠ t.data.toList) := act_no HRD.out.1 HCT.out (Or.inr (by rw [← HY.out]; exact not_list (beq_eq_false_iff_ne.1 heq)))
            have hth := hN4.2.2.out.1.th
            go_wp2_with (refine st_act rfl _ _ rfl _ rfl zeros rfl rfl hth (by simp [Value.oneCell']) ?_)
            exact read_none hN4.2.2.out.1 HNO.out rfl rfl rfl
          · have hma := n_setd_act n1 id ad L.length cp
            have HE : Hid (actT ⟨4, n1, id, L, [], chg0, lnk0⟩ = t.data.toList) := by
              have h := list_of (beq_iff_eq.1 heq)
              rw [HY.out] at h
              exact h
            go_wp2_with fail
            refine (setd_act n1 id ad L.length cp _).mono ?_
            rintro e w5 ⟨rfl, hb⟩
            have hN5 := texts_next hN4 hb
            have HO5 : Hid (w5.ownsRow W0.heap.size 102 4 (.slice ad L.length cp) L.length (L.flatMap ASet.cells)) := own_keep HO4.out hb
            clear HO4
            clear hb hma hN4
            have hth := hN5.2.2.out.1.th
            go_wp2_with (refine st_act rfl _ _ rfl _ rfl [.int .i64 4, .string n1, .int .i64 id, .slice ad L.length cp, .slice none 0 0, .int .i64 0, .string ⟨#[]⟩, .string ⟨#[]⟩, .string ⟨#[]⟩, .int .i64 0, .bool false, .bool false, .int .i64 0, .int .i64 0, .string ⟨#[]⟩, .string ⟨#[]⟩, .string ⟨#[]⟩, .string ⟨#[]⟩, .int .i64 0] rfl rfl hth (by simp [Value.oneCell']) ?_)
            exact read_some (x := ⟨4, n1, id, L, [], chg0, lnk0⟩) hN5.2.2.out.1 hW0 (HO5.out) (own_none _ _ _ _) (act_is HRD.out.1 HCT.out HI.out rfl HE.out) rfl rfl rfl
      · have hmo := n_off_ok n1 id
        go_wp2_with fail
        refine (off_ok n1 id _ HRD.out.2.1).mono ?_
        rintro e w3 ⟨rfl, hb⟩
        have hN3 := texts_next hN hb
        clear hb hmo hN
        cases hok : (nameOk n1 && idOk id)
        · have HNO : Hid (∀ y, implDeed y = true → actT y ≠ t.data.toList) := act_no HRD.out.1 HCT.out (Or.inl hok)
          have hth := hN3.2.2.out.1.th
          go_wp2_with (refine st_act rfl _ _ rfl _ rfl zeros rfl rfl hth (by simp [Value.oneCell']) ?_)
          exact read_none hN3.2.2.out.1 HNO.out rfl rfl rfl
        · have HI : Hid (implDeed ⟨5, n1, id, [], [], chg0, lnk0⟩ = true) := hok
          have hS := hok
          simp only [Bool.and_eq_true] at hS
          have h20 := Nat.le_trans (words_le HI.out).1 (by decide : 8 ≤ 20)
          have h1k := Nat.le_trans (text_le HI.out) (by decide : 168 ≤ 1000)
          go_wp2_with fail
          refine (text_off n1 id _ (id_le hS.2).1 (id_le hS.2).2 hN3.2.2.out.1.tb h20 h1k).mono ?_
          rintro e w4 ⟨y, rfl, hy, hb⟩
          have hN4 := texts_next hN3 hb
          have HY : Hid (y.data.toList = actT ⟨5, n1, id, [], [], chg0, lnk0⟩) := hy
          clear hb hy hN3 hS h20 h1k
          cases heq : (y.toList == t.toList)
          · have HNO : Hid (∀ y, implDeed y = true → actT y ≠ t.data.toList) := act_no HRD.out.1 HCT.out (Or.inr (by rw [← HY.out]; exact not_list (beq_eq_false_iff_ne.1 heq)))
            have hth := hN4.2.2.out.1.th
            go_wp2_with (refine st_act rfl _ _ rfl _ rfl zeros rfl rfl hth (by simp [Value.oneCell']) ?_)
            exact read_none hN4.2.2.out.1 HNO.out rfl rfl rfl
          · have hma := n_off_act n1 id
            have HE : Hid (actT ⟨5, n1, id, [], [], chg0, lnk0⟩ = t.data.toList) := by
              have h := list_of (beq_iff_eq.1 heq)
              rw [HY.out] at h
              exact h
            go_wp2_with fail
            refine (off_act n1 id _).mono ?_
            rintro e w5 ⟨rfl, hb⟩
            have hN5 := texts_next hN4 hb
            clear hb hma hN4
            have hth := hN5.2.2.out.1.th
            go_wp2_with (refine st_act rfl _ _ rfl _ rfl [.int .i64 5, .string n1, .int .i64 id, .slice none 0 0, .slice none 0 0, .int .i64 0, .string ⟨#[]⟩, .string ⟨#[]⟩, .string ⟨#[]⟩, .int .i64 0, .bool false, .bool false, .int .i64 0, .int .i64 0, .string ⟨#[]⟩, .string ⟨#[]⟩, .string ⟨#[]⟩, .string ⟨#[]⟩, .int .i64 0] rfl rfl hth (by simp [Value.oneCell']) ?_)
            exact read_some (x := ⟨5, n1, id, [], [], chg0, lnk0⟩) hN5.2.2.out.1 hW0 (own_none _ _ _ _) (own_none _ _ _ _) (act_is HRD.out.1 HCT.out HI.out rfl HE.out) rfl rfl rfl
      · have hmo := n_add_ok n1 c
        go_wp2_with fail
        refine (add_ok n1 c _ HRD.out.2.1 HRD.out.2.2.2.2.1.2.2).mono ?_
        rintro e w3 ⟨rfl, hb⟩
        have hN3 := texts_next hN hb
        clear hb hmo hN
        cases hok : (nameOk n1 && c.ok)
        · have HNO : Hid (∀ y, implDeed y = true → actT y ≠ t.data.toList) := act_no HRD.out.1 HCT.out (Or.inl hok)
          have hth := hN3.2.2.out.1.th
          go_wp2_with (refine st_act rfl _ _ rfl _ rfl zeros rfl rfl hth (by simp [Value.oneCell']) ?_)
          exact read_none hN3.2.2.out.1 HNO.out rfl rfl rfl
        · have HI : Hid (implDeed ⟨6, n1, 0, [], [], ⟨1, ⟨#[]⟩, ⟨#[]⟩, c⟩, lnk0⟩ = true) := hok
          have hS := hok
          simp only [Bool.and_eq_true] at hS
          have h20 := Nat.le_trans (words_le HI.out).1 (by decide : 8 ≤ 20)
          have h1k := Nat.le_trans (text_le HI.out) (by decide : 168 ≤ 1000)
          go_wp2_with fail
          refine (text_add n1 c _ hS.2 hN3.2.2.out.1.tb h20 h1k).mono ?_
          rintro e w4 ⟨y, rfl, hy, hb⟩
          have hN4 := texts_next hN3 hb
          have HY : Hid (y.data.toList = actT ⟨6, n1, 0, [], [], ⟨1, ⟨#[]⟩, ⟨#[]⟩, c⟩, lnk0⟩) := hy
          clear hb hy hN3 hS h20 h1k
          cases heq : (y.toList == t.toList)
          · have HNO : Hid (∀ y, implDeed y = true → actT y ≠ t.data.toList) := act_no HRD.out.1 HCT.out (Or.inr (by rw [← HY.out]; exact not_list (beq_eq_false_iff_ne.1 heq)))
            have hth := hN4.2.2.out.1.th
            go_wp2_with (refine st_act rfl _ _ rfl _ rfl zeros rfl rfl hth (by simp [Value.oneCell']) ?_)
            exact read_none hN4.2.2.out.1 HNO.out rfl rfl rfl
          · have hma := n_add_act n1 c
            have HE : Hid (actT ⟨6, n1, 0, [], [], ⟨1, ⟨#[]⟩, ⟨#[]⟩, c⟩, lnk0⟩ = t.data.toList) := by
              have h := list_of (beq_iff_eq.1 heq)
              rw [HY.out] at h
              exact h
            go_wp2_with fail
            refine (add_act n1 c _).mono ?_
            rintro e w5 ⟨rfl, hb⟩
            have hN5 := texts_next hN4 hb
            clear hb hma hN4
            have hth := hN5.2.2.out.1.th
            go_wp2_with (refine st_act rfl _ _ rfl _ rfl [.int .i64 6, .string n1, .int .i64 0, .slice none 0 0, .slice none 0 0, .int .i64 1, .string ⟨#[]⟩, .string ⟨#[]⟩, .string c.nm, .int .i64 c.kd, .bool c.nd, .bool c.oc, .int .i64 c.k, .int .i64 c.n, .string c.s, .string ⟨#[]⟩, .string ⟨#[]⟩, .string ⟨#[]⟩, .int .i64 0] rfl rfl hth (by simp [Value.oneCell']) ?_)
            exact read_some (x := ⟨6, n1, 0, [], [], ⟨1, ⟨#[]⟩, ⟨#[]⟩, c⟩, lnk0⟩) hN5.2.2.out.1 hW0 (own_none _ _ _ _) (own_none _ _ _ _) (act_is HRD.out.1 HCT.out HI.out rfl HE.out) rfl rfl rfl
      · have hmo := n_drop_ok n1 co
        go_wp2_with fail
        refine (drop_ok n1 co _ HRD.out.2.1 HRD.out.2.2.2.2.1.1).mono ?_
        rintro e w3 ⟨rfl, hb⟩
        have hN3 := texts_next hN hb
        clear hb hmo hN
        cases hok : (nameOk n1 && nameOk co)
        · have HNO : Hid (∀ y, implDeed y = true → actT y ≠ t.data.toList) := act_no HRD.out.1 HCT.out (Or.inl hok)
          have hth := hN3.2.2.out.1.th
          go_wp2_with (refine st_act rfl _ _ rfl _ rfl zeros rfl rfl hth (by simp [Value.oneCell']) ?_)
          exact read_none hN3.2.2.out.1 HNO.out rfl rfl rfl
        · have HI : Hid (implDeed ⟨6, n1, 0, [], [], ⟨2, co, ⟨#[]⟩, colK 0⟩, lnk0⟩ = true) := hok
          have hS := hok
          simp only [Bool.and_eq_true] at hS
          have h20 := Nat.le_trans (words_le HI.out).1 (by decide : 8 ≤ 20)
          have h1k := Nat.le_trans (text_le HI.out) (by decide : 168 ≤ 1000)
          go_wp2_with fail
          refine (text_drop n1 co _ h20 h1k).mono ?_
          rintro e w4 ⟨y, rfl, hy, hb⟩
          have hN4 := texts_next hN3 hb
          have HY : Hid (y.data.toList = actT ⟨6, n1, 0, [], [], ⟨2, co, ⟨#[]⟩, colK 0⟩, lnk0⟩) := hy
          clear hb hy hN3 hS h20 h1k
          cases heq : (y.toList == t.toList)
          · have HNO : Hid (∀ y, implDeed y = true → actT y ≠ t.data.toList) := act_no HRD.out.1 HCT.out (Or.inr (by rw [← HY.out]; exact not_list (beq_eq_false_iff_ne.1 heq)))
            have hth := hN4.2.2.out.1.th
            go_wp2_with (refine st_act rfl _ _ rfl _ rfl zeros rfl rfl hth (by simp [Value.oneCell']) ?_)
            exact read_none hN4.2.2.out.1 HNO.out rfl rfl rfl
          · have hma := n_drop_act n1 co
            have HE : Hid (actT ⟨6, n1, 0, [], [], ⟨2, co, ⟨#[]⟩, colK 0⟩, lnk0⟩ = t.data.toList) := by
              have h := list_of (beq_iff_eq.1 heq)
              rw [HY.out] at h
              exact h
            go_wp2_with fail
            refine (drop_act n1 co _).mono ?_
            rintro e w5 ⟨rfl, hb⟩
            have hN5 := texts_next hN4 hb
            clear hb hma hN4
            have hth := hN5.2.2.out.1.th
            go_wp2_with (refine st_act rfl _ _ rfl _ rfl [.int .i64 6, .string n1, .int .i64 0, .slice none 0 0, .slice none 0 0, .int .i64 2, .string co, .string ⟨#[]⟩, .string ⟨#[]⟩, .int .i64 0, .bool false, .bool false, .int .i64 0, .int .i64 0, .string ⟨#[]⟩, .string ⟨#[]⟩, .string ⟨#[]⟩, .string ⟨#[]⟩, .int .i64 0] rfl rfl hth (by simp [Value.oneCell']) ?_)
            exact read_some (x := ⟨6, n1, 0, [], [], ⟨2, co, ⟨#[]⟩, colK 0⟩, lnk0⟩) hN5.2.2.out.1 hW0 (own_none _ _ _ _) (own_none _ _ _ _) (act_is HRD.out.1 HCT.out HI.out rfl HE.out) rfl rfl rfl
      · have hmo := n_named_ok n1 co tt
        go_wp2_with fail
        refine (named_ok n1 co tt _ HRD.out.2.1 HRD.out.2.2.2.2.1.1 HRD.out.2.2.2.2.1.2.1).mono ?_
        rintro e w3 ⟨rfl, hb⟩
        have hN3 := texts_next hN hb
        clear hb hmo hN
        cases hok : (nameOk n1 && (nameOk co && nameOk tt))
        · have HNO : Hid (∀ y, implDeed y = true → actT y ≠ t.data.toList) := act_no HRD.out.1 HCT.out (Or.inl hok)
          have hth := hN3.2.2.out.1.th
          go_wp2_with (refine st_act rfl _ _ rfl _ rfl zeros rfl rfl hth (by simp [Value.oneCell']) ?_)
          exact read_none hN3.2.2.out.1 HNO.out rfl rfl rfl
        · have HI : Hid (implDeed ⟨6, n1, 0, [], [], ⟨3, co, tt, colK 0⟩, lnk0⟩ = true) := hok
          have hS := hok
          simp only [Bool.and_eq_true] at hS
          have h20 := Nat.le_trans (words_le HI.out).1 (by decide : 8 ≤ 20)
          have h1k := Nat.le_trans (text_le HI.out) (by decide : 168 ≤ 1000)
          go_wp2_with fail
          refine (text_named n1 co tt _ h20 h1k).mono ?_
          rintro e w4 ⟨y, rfl, hy, hb⟩
          have hN4 := texts_next hN3 hb
          have HY : Hid (y.data.toList = actT ⟨6, n1, 0, [], [], ⟨3, co, tt, colK 0⟩, lnk0⟩) := hy
          clear hb hy hN3 hS h20 h1k
          cases heq : (y.toList == t.toList)
          · have HNO : Hid (∀ y, implDeed y = true → actT y ≠ t.data.toList) := act_no HRD.out.1 HCT.out (Or.inr (by rw [← HY.out]; exact not_list (beq_eq_false_iff_ne.1 heq)))
            have hth := hN4.2.2.out.1.th
            go_wp2_with (refine st_act rfl _ _ rfl _ rfl zeros rfl rfl hth (by simp [Value.oneCell']) ?_)
            exact read_none hN4.2.2.out.1 HNO.out rfl rfl rfl
          · have hma := n_named_act n1 co tt
            have HE : Hid (actT ⟨6, n1, 0, [], [], ⟨3, co, tt, colK 0⟩, lnk0⟩ = t.data.toList) := by
              have h := list_of (beq_iff_eq.1 heq)
              rw [HY.out] at h
              exact h
            go_wp2_with fail
            refine (named_act n1 co tt _).mono ?_
            rintro e w5 ⟨rfl, hb⟩
            have hN5 := texts_next hN4 hb
            clear hb hma hN4
            have hth := hN5.2.2.out.1.th
            go_wp2_with (refine st_act rfl _ _ rfl _ rfl [.int .i64 6, .string n1, .int .i64 0, .slice none 0 0, .slice none 0 0, .int .i64 3, .string co, .string tt, .string ⟨#[]⟩, .int .i64 0, .bool false, .bool false, .int .i64 0, .int .i64 0, .string ⟨#[]⟩, .string ⟨#[]⟩, .string ⟨#[]⟩, .string ⟨#[]⟩, .int .i64 0] rfl rfl hth (by simp [Value.oneCell']) ?_)
            exact read_some (x := ⟨6, n1, 0, [], [], ⟨3, co, tt, colK 0⟩, lnk0⟩) hN5.2.2.out.1 hW0 (own_none _ _ _ _) (own_none _ _ _ _) (act_is HRD.out.1 HCT.out HI.out rfl HE.out) rfl rfl rfl
      · have hmo := n_kindd_ok n1 co k
        go_wp2_with fail
        refine (kindd_ok n1 co k _ HRD.out.2.1 HRD.out.2.2.2.2.1.1).mono ?_
        rintro e w3 ⟨rfl, hb⟩
        have hN3 := texts_next hN hb
        clear hb hmo hN
        cases hok : (nameOk n1 && (nameOk co && kindOk k))
        · have HNO : Hid (∀ y, implDeed y = true → actT y ≠ t.data.toList) := act_no HRD.out.1 HCT.out (Or.inl hok)
          have hth := hN3.2.2.out.1.th
          go_wp2_with (refine st_act rfl _ _ rfl _ rfl zeros rfl rfl hth (by simp [Value.oneCell']) ?_)
          exact read_none hN3.2.2.out.1 HNO.out rfl rfl rfl
        · have HI : Hid (implDeed ⟨6, n1, 0, [], [], ⟨4, co, ⟨#[]⟩, colK k⟩, lnk0⟩ = true) := hok
          have hS := hok
          simp only [Bool.and_eq_true] at hS
          have h20 := Nat.le_trans (words_le HI.out).1 (by decide : 8 ≤ 20)
          have h1k := Nat.le_trans (text_le HI.out) (by decide : 168 ≤ 1000)
          go_wp2_with fail
          refine (text_kindd n1 co k _ hN3.2.2.out.1.tb h20 h1k).mono ?_
          rintro e w4 ⟨y, rfl, hy, hb⟩
          have hN4 := texts_next hN3 hb
          have HY : Hid (y.data.toList = actT ⟨6, n1, 0, [], [], ⟨4, co, ⟨#[]⟩, colK k⟩, lnk0⟩) := hy
          clear hb hy hN3 hS h20 h1k
          cases heq : (y.toList == t.toList)
          · have HNO : Hid (∀ y, implDeed y = true → actT y ≠ t.data.toList) := act_no HRD.out.1 HCT.out (Or.inr (by rw [← HY.out]; exact not_list (beq_eq_false_iff_ne.1 heq)))
            have hth := hN4.2.2.out.1.th
            go_wp2_with (refine st_act rfl _ _ rfl _ rfl zeros rfl rfl hth (by simp [Value.oneCell']) ?_)
            exact read_none hN4.2.2.out.1 HNO.out rfl rfl rfl
          · have hma := n_kindd_act n1 co k
            have HE : Hid (actT ⟨6, n1, 0, [], [], ⟨4, co, ⟨#[]⟩, colK k⟩, lnk0⟩ = t.data.toList) := by
              have h := list_of (beq_iff_eq.1 heq)
              rw [HY.out] at h
              exact h
            go_wp2_with fail
            refine (kindd_act n1 co k _).mono ?_
            rintro e w5 ⟨rfl, hb⟩
            have hN5 := texts_next hN4 hb
            clear hb hma hN4
            have hth := hN5.2.2.out.1.th
            go_wp2_with (refine st_act rfl _ _ rfl _ rfl [.int .i64 6, .string n1, .int .i64 0, .slice none 0 0, .slice none 0 0, .int .i64 4, .string co, .string ⟨#[]⟩, .string ⟨#[]⟩, .int .i64 k, .bool false, .bool false, .int .i64 0, .int .i64 0, .string ⟨#[]⟩, .string ⟨#[]⟩, .string ⟨#[]⟩, .string ⟨#[]⟩, .int .i64 0] rfl rfl hth (by simp [Value.oneCell']) ?_)
            exact read_some (x := ⟨6, n1, 0, [], [], ⟨4, co, ⟨#[]⟩, colK k⟩, lnk0⟩) hN5.2.2.out.1 hW0 (own_none _ _ _ _) (own_none _ _ _ _) (act_is HRD.out.1 HCT.out HI.out rfl HE.out) rfl rfl rfl
    | cons x r =>
      have hl2 : ¬ ((r.length : Int) + 1 + 1 + 1 < 2) := by omega
      have hl3 : (2 : Int) ≤ (r.length : Int) + 1 + 1 + 1 := by omega
      have hl4 : (1 : Int) < (r.length : Int) + 1 + 1 + 1 := by omega
      have hl5 : (0 : Int) < (r.length : Int) + 1 + 1 + 1 := by omega
      simp only [List.length_cons]
      go_wp2_with fail
      go_region_held3 (fun W => TextS w m B0 verb nm (x :: r) W) (first | assumption | exact texts_drew (by assumption)) (first
        | (go_at_call 20; refine (deed_here (ws := (x :: r)) _ _ (by assumption) (Or.inr rfl) (by simp) HC.out.2.1 hws).mono ?_; rintro e w' ⟨v, rfl, hD, hb⟩; have hN := texts_next (by assumption) hb; clear hb))
      have hth := hN.2.2.out.1.th
      rcases hD.out with ⟨W0, hW0, ⟨rfl, _, hno⟩ | ⟨x0, ⟨_, hx⟩, hfit, hrd⟩⟩
      · have HN : Hid (∀ y, implDeed y = true → actT y ≠ t.data.toList) := fun y hy e => hno y hy (by rw [← cut_act hy, e, ← HC.out.1]; rfl)
        go_wp2_with (refine st_act rfl _ _ rfl _ rfl zeros rfl rfl hth (by simp [Value.oneCell']) ?_)
        exact read_none hN.2.2.out.1 HN.out rfl rfl rfl
      have HRD : Hid (ActRd (verb.data.toList :: nm.data.toList :: (x :: r).map (·.data.toList)) x0 ∧ x0.fit) := ⟨hrd, hfit⟩
      have hcut : cutB 32 t.data.toList = verb.data.toList :: nm.data.toList :: (x :: r).map (·.data.toList) := HC.out.1.symm
      have HCT : Hid (cutB 32 t.data.toList = verb.data.toList :: nm.data.toList :: (x :: r).map (·.data.toList)) := hcut
      clear hrd hfit hD hth hcut
      rcases hx with ⟨n1, L, u, rfl, rfl, hO⟩ | ⟨l, rfl, rfl⟩ | ⟨n1, L, u, rfl, rfl, hO⟩ | ⟨n1, id, L, u, rfl, rfl, hO⟩ | ⟨n1, id, rfl, rfl⟩ | ⟨n1, c, rfl, rfl⟩ | ⟨n1, co, rfl, rfl⟩ | ⟨n1, co, tt, rfl, rfl⟩ | ⟨n1, co, k, rfl, rfl⟩
      · obtain ⟨ad, cp, rfl, hAt⟩ := own_cols hO.1
        have HO : Hid (w'.ownsRow W0.heap.size 28 7 (.slice ad L.length cp) L.length (L.flatMap ACol.cells)) := hO.1
        clear hO
        have hmo := n_table_ok n1 ad L.length cp
        go_wp2_with fail
        refine (table_ok n1 ad cp L _ hAt HRD.out.2.1 HRD.out.2.2.2.1.1 HRD.out.2.2.2.1.2).mono ?_
        rintro e w3 ⟨rfl, hb⟩
        have hN3 := texts_next hN hb
        have HO3 : Hid (w3.ownsRow W0.heap.size 28 7 (.slice ad L.length cp) L.length (L.flatMap ACol.cells)) := own_keep HO.out hb
        have hA3 := hAt.keep hb
        clear HO hAt
        clear hb hmo hN
        cases hok : (nameOk n1 && (decide (1 ≤ L.length) && (decide (L.length ≤ 5) && L.all ACol.ok)))
        · have HNO : Hid (∀ y, implDeed y = true → actT y ≠ t.data.toList) := act_no HRD.out.1 HCT.out (Or.inl hok)
          have hth := hN3.2.2.out.1.th
          go_wp2_with (refine st_act rfl _ _ rfl _ rfl zeros rfl rfl hth (by simp [Value.oneCell']) ?_)
          exact read_none hN3.2.2.out.1 HNO.out rfl rfl rfl
        · have HI : Hid (implDeed ⟨1, n1, 0, [], L, chg0, lnk0⟩ = true) := hok
          have hS := hok
          simp only [Bool.and_eq_true, decide_eq_true_eq, List.all_eq_true] at hS
          have h20 := Nat.le_trans (words_le HI.out).1 (by decide : 8 ≤ 20)
          have h1k := Nat.le_trans (text_le HI.out) (by decide : 168 ≤ 1000)
          go_wp2_with fail
          refine (text_table n1 ad cp L _ hA3 hS.2.2.2 hS.2.2.1 hN3.2.2.out.1.tb h20 h1k).mono ?_
          rintro e w4 ⟨y, rfl, hy, hb⟩
          have hN4 := texts_next hN3 hb
          have HO4 : Hid (w4.ownsRow W0.heap.size 28 7 (.slice ad L.length cp) L.length (L.flatMap ACol.cells)) := own_keep HO3.out hb
          clear HO3 hA3
          have HY : Hid (y.data.toList = actT ⟨1, n1, 0, [], L, chg0, lnk0⟩) := hy
          clear hb hy hN3 hS h20 h1k
          cases heq : (y.toList == t.toList)
          · have HNO : Hid (∀ y, implDeed y = true → actT y ≠ t.data.toList) := act_no HRD.out.1 HCT.out (Or.inr (by rw [← HY.out]; exact not_list (beq_eq_false_iff_ne.1 heq)))
            have hth := hN4.2.2.out.1.th
            go_wp2_with (refine st_act rfl _ _ rfl _ rfl zeros rfl rfl hth (by simp [Value.oneCell']) ?_)
            exact read_none hN4.2.2.out.1 HNO.out rfl rfl rfl
          · have hma := n_table_act n1 ad L.length cp
            have HE : Hid (actT ⟨1, n1, 0, [], L, chg0, lnk0⟩ = t.data.toList) := by
              have h := list_of (beq_iff_eq.1 heq)
              rw [HY.out] at h
              exact h
            go_wp2_with fail
            refine (table_act n1 ad L.length cp _).mono ?_
            rintro e w5 ⟨rfl, hb⟩
            have hN5 := texts_next hN4 hb
            have HO5 : Hid (w5.ownsRow W0.heap.size 28 7 (.slice ad L.length cp) L.length (L.flatMap ACol.cells)) := own_keep HO4.out hb
            clear HO4
            clear hb hma hN4
            have hth := hN5.2.2.out.1.th
            go_wp2_with (refine st_act rfl _ _ rfl _ rfl [.int .i64 1, .string n1, .int .i64 0, .slice none 0 0, .slice ad L.length cp, .int .i64 0, .string ⟨#[]⟩, .string ⟨#[]⟩, .string ⟨#[]⟩, .int .i64 0, .bool false, .bool false, .int .i64 0, .int .i64 0, .string ⟨#[]⟩, .string ⟨#[]⟩, .string ⟨#[]⟩, .string ⟨#[]⟩, .int .i64 0] rfl rfl hth (by simp [Value.oneCell']) ?_)
            exact read_some (x := ⟨1, n1, 0, [], L, chg0, lnk0⟩) hN5.2.2.out.1 hW0 (own_none _ _ _ _) (HO5.out) (act_is HRD.out.1 HCT.out HI.out rfl HE.out) rfl rfl rfl
      · have hmo := n_link_ok l
        go_wp2_with fail
        refine (link_ok l _ HRD.out.2.2.2.2.2).mono ?_
        rintro e w3 ⟨rfl, hb⟩
        have hN3 := texts_next hN hb
        clear hb hmo hN
        cases hok : (nameOk l.fr && (nameOk l.co && (nameOk l.tt && howOk l.hw)))
        · have HNO : Hid (∀ y, implDeed y = true → actT y ≠ t.data.toList) := act_no HRD.out.1 HCT.out (Or.inl hok)
          have hth := hN3.2.2.out.1.th
          go_wp2_with (refine st_act rfl _ _ rfl _ rfl zeros rfl rfl hth (by simp [Value.oneCell']) ?_)
          exact read_none hN3.2.2.out.1 HNO.out rfl rfl rfl
        · have HI : Hid (implDeed ⟨2, ⟨#[]⟩, 0, [], [], chg0, l⟩ = true) := hok
          have hS := hok
          simp only [Bool.and_eq_true] at hS
          have h20 := Nat.le_trans (words_le HI.out).1 (by decide : 8 ≤ 20)
          have h1k := Nat.le_trans (text_le HI.out) (by decide : 168 ≤ 1000)
          go_wp2_with fail
          refine (text_link l _ hN3.2.2.out.1.tb h20 h1k).mono ?_
          rintro e w4 ⟨y, rfl, hy, hb⟩
          have hN4 := texts_next hN3 hb
          have HY : Hid (y.data.toList = actT ⟨2, ⟨#[]⟩, 0, [], [], chg0, l⟩) := hy
          clear hb hy hN3 hS h20 h1k
          cases heq : (y.toList == t.toList)
          · have HNO : Hid (∀ y, implDeed y = true → actT y ≠ t.data.toList) := act_no HRD.out.1 HCT.out (Or.inr (by rw [← HY.out]; exact not_list (beq_eq_false_iff_ne.1 heq)))
            have hth := hN4.2.2.out.1.th
            go_wp2_with (refine st_act rfl _ _ rfl _ rfl zeros rfl rfl hth (by simp [Value.oneCell']) ?_)
            exact read_none hN4.2.2.out.1 HNO.out rfl rfl rfl
          · have hma := n_link_act l
            have HE : Hid (actT ⟨2, ⟨#[]⟩, 0, [], [], chg0, l⟩ = t.data.toList) := by
              have h := list_of (beq_iff_eq.1 heq)
              rw [HY.out] at h
              exact h
            go_wp2_with fail
            refine (link_act l _).mono ?_
            rintro e w5 ⟨rfl, hb⟩
            have hN5 := texts_next hN4 hb
            clear hb hma hN4
            have hth := hN5.2.2.out.1.th
            go_wp2_with (refine st_act rfl _ _ rfl _ rfl [.int .i64 2, .string ⟨#[]⟩, .int .i64 0, .slice none 0 0, .slice none 0 0, .int .i64 0, .string ⟨#[]⟩, .string ⟨#[]⟩, .string ⟨#[]⟩, .int .i64 0, .bool false, .bool false, .int .i64 0, .int .i64 0, .string ⟨#[]⟩, .string l.fr, .string l.co, .string l.tt, .int .i64 l.hw] rfl rfl hth (by simp [Value.oneCell']) ?_)
            exact read_some (x := ⟨2, ⟨#[]⟩, 0, [], [], chg0, l⟩) hN5.2.2.out.1 hW0 (own_none _ _ _ _) (own_none _ _ _ _) (act_is HRD.out.1 HCT.out HI.out rfl HE.out) rfl rfl rfl
      · obtain ⟨ad, cp, rfl, hAt⟩ := own_sets hO.1
        have HO : Hid (w'.ownsRow W0.heap.size 102 4 (.slice ad L.length cp) L.length (L.flatMap ASet.cells)) := hO.1
        clear hO
        have hmo := n_put_ok n1 ad L.length cp
        go_wp2_with fail
        refine (put_ok n1 ad cp L _ hAt HRD.out.2.1 HRD.out.2.2.1.1 HRD.out.2.2.1.2).mono ?_
        rintro e w3 ⟨rfl, hb⟩
        have hN3 := texts_next hN hb
        have HO3 : Hid (w3.ownsRow W0.heap.size 102 4 (.slice ad L.length cp) L.length (L.flatMap ASet.cells)) := own_keep HO.out hb
        have hA3 := hAt.keep hb
        clear HO hAt
        clear hb hmo hN
        cases hok : (nameOk n1 && (decide (L.length ≤ 5) && L.all ASet.ok))
        · have HNO : Hid (∀ y, implDeed y = true → actT y ≠ t.data.toList) := act_no HRD.out.1 HCT.out (Or.inl hok)
          have hth := hN3.2.2.out.1.th
          go_wp2_with (refine st_act rfl _ _ rfl _ rfl zeros rfl rfl hth (by simp [Value.oneCell']) ?_)
          exact read_none hN3.2.2.out.1 HNO.out rfl rfl rfl
        · have HI : Hid (implDeed ⟨3, n1, 0, L, [], chg0, lnk0⟩ = true) := hok
          have hS := hok
          simp only [Bool.and_eq_true, decide_eq_true_eq, List.all_eq_true] at hS
          have h20 := Nat.le_trans (words_le HI.out).1 (by decide : 8 ≤ 20)
          have h1k := Nat.le_trans (text_le HI.out) (by decide : 168 ≤ 1000)
          go_wp2_with fail
          refine (text_put n1 ad cp L _ hA3 hS.2.2 hS.2.1 hN3.2.2.out.1.tb h20 h1k).mono ?_
          rintro e w4 ⟨y, rfl, hy, hb⟩
          have hN4 := texts_next hN3 hb
          have HO4 : Hid (w4.ownsRow W0.heap.size 102 4 (.slice ad L.length cp) L.length (L.flatMap ASet.cells)) := own_keep HO3.out hb
          clear HO3 hA3
          have HY : Hid (y.data.toList = actT ⟨3, n1, 0, L, [], chg0, lnk0⟩) := hy
          clear hb hy hN3 hS h20 h1k
          cases heq : (y.toList == t.toList)
          · have HNO : Hid (∀ y, implDeed y = true → actT y ≠ t.data.toList) := act_no HRD.out.1 HCT.out (Or.inr (by rw [← HY.out]; exact not_list (beq_eq_false_iff_ne.1 heq)))
            have hth := hN4.2.2.out.1.th
            go_wp2_with (refine st_act rfl _ _ rfl _ rfl zeros rfl rfl hth (by simp [Value.oneCell']) ?_)
            exact read_none hN4.2.2.out.1 HNO.out rfl rfl rfl
          · have hma := n_put_act n1 ad L.length cp
            have HE : Hid (actT ⟨3, n1, 0, L, [], chg0, lnk0⟩ = t.data.toList) := by
              have h := list_of (beq_iff_eq.1 heq)
              rw [HY.out] at h
              exact h
            go_wp2_with fail
            refine (put_act n1 ad L.length cp _).mono ?_
            rintro e w5 ⟨rfl, hb⟩
            have hN5 := texts_next hN4 hb
            have HO5 : Hid (w5.ownsRow W0.heap.size 102 4 (.slice ad L.length cp) L.length (L.flatMap ASet.cells)) := own_keep HO4.out hb
            clear HO4
            clear hb hma hN4
            have hth := hN5.2.2.out.1.th
            go_wp2_with (refine st_act rfl _ _ rfl _ rfl [.int .i64 3, .string n1, .int .i64 0, .slice ad L.length cp, .slice none 0 0, .int .i64 0, .string ⟨#[]⟩, .string ⟨#[]⟩, .string ⟨#[]⟩, .int .i64 0, .bool false, .bool false, .int .i64 0, .int .i64 0, .string ⟨#[]⟩, .string ⟨#[]⟩, .string ⟨#[]⟩, .string ⟨#[]⟩, .int .i64 0] rfl rfl hth (by simp [Value.oneCell']) ?_)
            exact read_some (x := ⟨3, n1, 0, L, [], chg0, lnk0⟩) hN5.2.2.out.1 hW0 (HO5.out) (own_none _ _ _ _) (act_is HRD.out.1 HCT.out HI.out rfl HE.out) rfl rfl rfl
      · obtain ⟨ad, cp, rfl, hAt⟩ := own_sets hO.1
        have HO : Hid (w'.ownsRow W0.heap.size 102 4 (.slice ad L.length cp) L.length (L.flatMap ASet.cells)) := hO.1
        clear hO
        have hmo := n_setd_ok n1 id ad L.length cp
        go_wp2_with fail
        refine (setd_ok n1 id ad cp L _ hAt HRD.out.2.1 HRD.out.2.2.1.1 HRD.out.2.2.1.2).mono ?_
        rintro e w3 ⟨rfl, hb⟩
        have hN3 := texts_next hN hb
        have HO3 : Hid (w3.ownsRow W0.heap.size 102 4 (.slice ad L.length cp) L.length (L.flatMap ASet.cells)) := own_keep HO.out hb
        have hA3 := hAt.keep hb
        clear HO hAt
        clear hb hmo hN
        cases hok : (nameOk n1 && (idOk id && (decide (L.length ≤ 5) && L.all ASet.ok)))
        · have HNO : Hid (∀ y, implDeed y = true → actT y ≠ t.data.toList) := act_no HRD.out.1 HCT.out (Or.inl hok)
          have hth := hN3.2.2.out.1.th
          go_wp2_with (refine st_act rfl _ _ rfl _ rfl zeros rfl rfl hth (by simp [Value.oneCell']) ?_)
          exact read_none hN3.2.2.out.1 HNO.out rfl rfl rfl
        · have HI : Hid (implDeed ⟨4, n1, id, L, [], chg0, lnk0⟩ = true) := hok
          have hS := hok
          simp only [Bool.and_eq_true, decide_eq_true_eq, List.all_eq_true] at hS
          have h20 := Nat.le_trans (words_le HI.out).1 (by decide : 8 ≤ 20)
          have h1k := Nat.le_trans (text_le HI.out) (by decide : 168 ≤ 1000)
          go_wp2_with fail
          refine (text_setd n1 id ad cp L _ hA3 hS.2.2.2 hS.2.2.1 (id_le hS.2.1).1 (id_le hS.2.1).2 hN3.2.2.out.1.tb h20 h1k).mono ?_
          rintro e w4 ⟨y, rfl, hy, hb⟩
          have hN4 := texts_next hN3 hb
          have HO4 : Hid (w4.ownsRow W0.heap.size 102 4 (.slice ad L.length cp) L.length (L.flatMap ASet.cells)) := own_keep HO3.out hb
          clear HO3 hA3
          have HY : Hid (y.data.toList = actT ⟨4, n1, id, L, [], chg0, lnk0⟩) := hy
          clear hb hy hN3 hS h20 h1k
          cases heq : (y.toList == t.toList)
          · have HNO : Hid (∀ y, implDeed y = true → actT y ≠ t.data.toList) := act_no HRD.out.1 HCT.out (Or.inr (by rw [← HY.out]; exact not_list (beq_eq_false_iff_ne.1 heq)))
            have hth := hN4.2.2.out.1.th
            go_wp2_with (refine st_act rfl _ _ rfl _ rfl zeros rfl rfl hth (by simp [Value.oneCell']) ?_)
            exact read_none hN4.2.2.out.1 HNO.out rfl rfl rfl
          · have hma := n_setd_act n1 id ad L.length cp
            have HE : Hid (actT ⟨4, n1, id, L, [], chg0, lnk0⟩ = t.data.toList) := by
              have h := list_of (beq_iff_eq.1 heq)
              rw [HY.out] at h
              exact h
            go_wp2_with fail
            refine (setd_act n1 id ad L.length cp _).mono ?_
            rintro e w5 ⟨rfl, hb⟩
            have hN5 := texts_next hN4 hb
            have HO5 : Hid (w5.ownsRow W0.heap.size 102 4 (.slice ad L.length cp) L.length (L.flatMap ASet.cells)) := own_keep HO4.out hb
            clear HO4
            clear hb hma hN4
            have hth := hN5.2.2.out.1.th
            go_wp2_with (refine st_act rfl _ _ rfl _ rfl [.int .i64 4, .string n1, .int .i64 id, .slice ad L.length cp, .slice none 0 0, .int .i64 0, .string ⟨#[]⟩, .string ⟨#[]⟩, .string ⟨#[]⟩, .int .i64 0, .bool false, .bool false, .int .i64 0, .int .i64 0, .string ⟨#[]⟩, .string ⟨#[]⟩, .string ⟨#[]⟩, .string ⟨#[]⟩, .int .i64 0] rfl rfl hth (by simp [Value.oneCell']) ?_)
            exact read_some (x := ⟨4, n1, id, L, [], chg0, lnk0⟩) hN5.2.2.out.1 hW0 (HO5.out) (own_none _ _ _ _) (act_is HRD.out.1 HCT.out HI.out rfl HE.out) rfl rfl rfl
      · have hmo := n_off_ok n1 id
        go_wp2_with fail
        refine (off_ok n1 id _ HRD.out.2.1).mono ?_
        rintro e w3 ⟨rfl, hb⟩
        have hN3 := texts_next hN hb
        clear hb hmo hN
        cases hok : (nameOk n1 && idOk id)
        · have HNO : Hid (∀ y, implDeed y = true → actT y ≠ t.data.toList) := act_no HRD.out.1 HCT.out (Or.inl hok)
          have hth := hN3.2.2.out.1.th
          go_wp2_with (refine st_act rfl _ _ rfl _ rfl zeros rfl rfl hth (by simp [Value.oneCell']) ?_)
          exact read_none hN3.2.2.out.1 HNO.out rfl rfl rfl
        · have HI : Hid (implDeed ⟨5, n1, id, [], [], chg0, lnk0⟩ = true) := hok
          have hS := hok
          simp only [Bool.and_eq_true] at hS
          have h20 := Nat.le_trans (words_le HI.out).1 (by decide : 8 ≤ 20)
          have h1k := Nat.le_trans (text_le HI.out) (by decide : 168 ≤ 1000)
          go_wp2_with fail
          refine (text_off n1 id _ (id_le hS.2).1 (id_le hS.2).2 hN3.2.2.out.1.tb h20 h1k).mono ?_
          rintro e w4 ⟨y, rfl, hy, hb⟩
          have hN4 := texts_next hN3 hb
          have HY : Hid (y.data.toList = actT ⟨5, n1, id, [], [], chg0, lnk0⟩) := hy
          clear hb hy hN3 hS h20 h1k
          cases heq : (y.toList == t.toList)
          · have HNO : Hid (∀ y, implDeed y = true → actT y ≠ t.data.toList) := act_no HRD.out.1 HCT.out (Or.inr (by rw [← HY.out]; exact not_list (beq_eq_false_iff_ne.1 heq)))
            have hth := hN4.2.2.out.1.th
            go_wp2_with (refine st_act rfl _ _ rfl _ rfl zeros rfl rfl hth (by simp [Value.oneCell']) ?_)
            exact read_none hN4.2.2.out.1 HNO.out rfl rfl rfl
          · have hma := n_off_act n1 id
            have HE : Hid (actT ⟨5, n1, id, [], [], chg0, lnk0⟩ = t.data.toList) := by
              have h := list_of (beq_iff_eq.1 heq)
              rw [HY.out] at h
              exact h
            go_wp2_with fail
            refine (off_act n1 id _).mono ?_
            rintro e w5 ⟨rfl, hb⟩
            have hN5 := texts_next hN4 hb
            clear hb hma hN4
            have hth := hN5.2.2.out.1.th
            go_wp2_with (refine st_act rfl _ _ rfl _ rfl [.int .i64 5, .string n1, .int .i64 id, .slice none 0 0, .slice none 0 0, .int .i64 0, .string ⟨#[]⟩, .string ⟨#[]⟩, .string ⟨#[]⟩, .int .i64 0, .bool false, .bool false, .int .i64 0, .int .i64 0, .string ⟨#[]⟩, .string ⟨#[]⟩, .string ⟨#[]⟩, .string ⟨#[]⟩, .int .i64 0] rfl rfl hth (by simp [Value.oneCell']) ?_)
            exact read_some (x := ⟨5, n1, id, [], [], chg0, lnk0⟩) hN5.2.2.out.1 hW0 (own_none _ _ _ _) (own_none _ _ _ _) (act_is HRD.out.1 HCT.out HI.out rfl HE.out) rfl rfl rfl
      · have hmo := n_add_ok n1 c
        go_wp2_with fail
        refine (add_ok n1 c _ HRD.out.2.1 HRD.out.2.2.2.2.1.2.2).mono ?_
        rintro e w3 ⟨rfl, hb⟩
        have hN3 := texts_next hN hb
        clear hb hmo hN
        cases hok : (nameOk n1 && c.ok)
        · have HNO : Hid (∀ y, implDeed y = true → actT y ≠ t.data.toList) := act_no HRD.out.1 HCT.out (Or.inl hok)
          have hth := hN3.2.2.out.1.th
          go_wp2_with (refine st_act rfl _ _ rfl _ rfl zeros rfl rfl hth (by simp [Value.oneCell']) ?_)
          exact read_none hN3.2.2.out.1 HNO.out rfl rfl rfl
        · have HI : Hid (implDeed ⟨6, n1, 0, [], [], ⟨1, ⟨#[]⟩, ⟨#[]⟩, c⟩, lnk0⟩ = true) := hok
          have hS := hok
          simp only [Bool.and_eq_true] at hS
          have h20 := Nat.le_trans (words_le HI.out).1 (by decide : 8 ≤ 20)
          have h1k := Nat.le_trans (text_le HI.out) (by decide : 168 ≤ 1000)
          go_wp2_with fail
          refine (text_add n1 c _ hS.2 hN3.2.2.out.1.tb h20 h1k).mono ?_
          rintro e w4 ⟨y, rfl, hy, hb⟩
          have hN4 := texts_next hN3 hb
          have HY : Hid (y.data.toList = actT ⟨6, n1, 0, [], [], ⟨1, ⟨#[]⟩, ⟨#[]⟩, c⟩, lnk0⟩) := hy
          clear hb hy hN3 hS h20 h1k
          cases heq : (y.toList == t.toList)
          · have HNO : Hid (∀ y, implDeed y = true → actT y ≠ t.data.toList) := act_no HRD.out.1 HCT.out (Or.inr (by rw [← HY.out]; exact not_list (beq_eq_false_iff_ne.1 heq)))
            have hth := hN4.2.2.out.1.th
            go_wp2_with (refine st_act rfl _ _ rfl _ rfl zeros rfl rfl hth (by simp [Value.oneCell']) ?_)
            exact read_none hN4.2.2.out.1 HNO.out rfl rfl rfl
          · have hma := n_add_act n1 c
            have HE : Hid (actT ⟨6, n1, 0, [], [], ⟨1, ⟨#[]⟩, ⟨#[]⟩, c⟩, lnk0⟩ = t.data.toList) := by
              have h := list_of (beq_iff_eq.1 heq)
              rw [HY.out] at h
              exact h
            go_wp2_with fail
            refine (add_act n1 c _).mono ?_
            rintro e w5 ⟨rfl, hb⟩
            have hN5 := texts_next hN4 hb
            clear hb hma hN4
            have hth := hN5.2.2.out.1.th
            go_wp2_with (refine st_act rfl _ _ rfl _ rfl [.int .i64 6, .string n1, .int .i64 0, .slice none 0 0, .slice none 0 0, .int .i64 1, .string ⟨#[]⟩, .string ⟨#[]⟩, .string c.nm, .int .i64 c.kd, .bool c.nd, .bool c.oc, .int .i64 c.k, .int .i64 c.n, .string c.s, .string ⟨#[]⟩, .string ⟨#[]⟩, .string ⟨#[]⟩, .int .i64 0] rfl rfl hth (by simp [Value.oneCell']) ?_)
            exact read_some (x := ⟨6, n1, 0, [], [], ⟨1, ⟨#[]⟩, ⟨#[]⟩, c⟩, lnk0⟩) hN5.2.2.out.1 hW0 (own_none _ _ _ _) (own_none _ _ _ _) (act_is HRD.out.1 HCT.out HI.out rfl HE.out) rfl rfl rfl
      · have hmo := n_drop_ok n1 co
        go_wp2_with fail
        refine (drop_ok n1 co _ HRD.out.2.1 HRD.out.2.2.2.2.1.1).mono ?_
        rintro e w3 ⟨rfl, hb⟩
        have hN3 := texts_next hN hb
        clear hb hmo hN
        cases hok : (nameOk n1 && nameOk co)
        · have HNO : Hid (∀ y, implDeed y = true → actT y ≠ t.data.toList) := act_no HRD.out.1 HCT.out (Or.inl hok)
          have hth := hN3.2.2.out.1.th
          go_wp2_with (refine st_act rfl _ _ rfl _ rfl zeros rfl rfl hth (by simp [Value.oneCell']) ?_)
          exact read_none hN3.2.2.out.1 HNO.out rfl rfl rfl
        · have HI : Hid (implDeed ⟨6, n1, 0, [], [], ⟨2, co, ⟨#[]⟩, colK 0⟩, lnk0⟩ = true) := hok
          have hS := hok
          simp only [Bool.and_eq_true] at hS
          have h20 := Nat.le_trans (words_le HI.out).1 (by decide : 8 ≤ 20)
          have h1k := Nat.le_trans (text_le HI.out) (by decide : 168 ≤ 1000)
          go_wp2_with fail
          refine (text_drop n1 co _ h20 h1k).mono ?_
          rintro e w4 ⟨y, rfl, hy, hb⟩
          have hN4 := texts_next hN3 hb
          have HY : Hid (y.data.toList = actT ⟨6, n1, 0, [], [], ⟨2, co, ⟨#[]⟩, colK 0⟩, lnk0⟩) := hy
          clear hb hy hN3 hS h20 h1k
          cases heq : (y.toList == t.toList)
          · have HNO : Hid (∀ y, implDeed y = true → actT y ≠ t.data.toList) := act_no HRD.out.1 HCT.out (Or.inr (by rw [← HY.out]; exact not_list (beq_eq_false_iff_ne.1 heq)))
            have hth := hN4.2.2.out.1.th
            go_wp2_with (refine st_act rfl _ _ rfl _ rfl zeros rfl rfl hth (by simp [Value.oneCell']) ?_)
            exact read_none hN4.2.2.out.1 HNO.out rfl rfl rfl
          · have hma := n_drop_act n1 co
            have HE : Hid (actT ⟨6, n1, 0, [], [], ⟨2, co, ⟨#[]⟩, colK 0⟩, lnk0⟩ = t.data.toList) := by
              have h := list_of (beq_iff_eq.1 heq)
              rw [HY.out] at h
              exact h
            go_wp2_with fail
            refine (drop_act n1 co _).mono ?_
            rintro e w5 ⟨rfl, hb⟩
            have hN5 := texts_next hN4 hb
            clear hb hma hN4
            have hth := hN5.2.2.out.1.th
            go_wp2_with (refine st_act rfl _ _ rfl _ rfl [.int .i64 6, .string n1, .int .i64 0, .slice none 0 0, .slice none 0 0, .int .i64 2, .string co, .string ⟨#[]⟩, .string ⟨#[]⟩, .int .i64 0, .bool false, .bool false, .int .i64 0, .int .i64 0, .string ⟨#[]⟩, .string ⟨#[]⟩, .string ⟨#[]⟩, .string ⟨#[]⟩, .int .i64 0] rfl rfl hth (by simp [Value.oneCell']) ?_)
            exact read_some (x := ⟨6, n1, 0, [], [], ⟨2, co, ⟨#[]⟩, colK 0⟩, lnk0⟩) hN5.2.2.out.1 hW0 (own_none _ _ _ _) (own_none _ _ _ _) (act_is HRD.out.1 HCT.out HI.out rfl HE.out) rfl rfl rfl
      · have hmo := n_named_ok n1 co tt
        go_wp2_with fail
        refine (named_ok n1 co tt _ HRD.out.2.1 HRD.out.2.2.2.2.1.1 HRD.out.2.2.2.2.1.2.1).mono ?_
        rintro e w3 ⟨rfl, hb⟩
        have hN3 := texts_next hN hb
        clear hb hmo hN
        cases hok : (nameOk n1 && (nameOk co && nameOk tt))
        · have HNO : Hid (∀ y, implDeed y = true → actT y ≠ t.data.toList) := act_no HRD.out.1 HCT.out (Or.inl hok)
          have hth := hN3.2.2.out.1.th
          go_wp2_with (refine st_act rfl _ _ rfl _ rfl zeros rfl rfl hth (by simp [Value.oneCell']) ?_)
          exact read_none hN3.2.2.out.1 HNO.out rfl rfl rfl
        · have HI : Hid (implDeed ⟨6, n1, 0, [], [], ⟨3, co, tt, colK 0⟩, lnk0⟩ = true) := hok
          have hS := hok
          simp only [Bool.and_eq_true] at hS
          have h20 := Nat.le_trans (words_le HI.out).1 (by decide : 8 ≤ 20)
          have h1k := Nat.le_trans (text_le HI.out) (by decide : 168 ≤ 1000)
          go_wp2_with fail
          refine (text_named n1 co tt _ h20 h1k).mono ?_
          rintro e w4 ⟨y, rfl, hy, hb⟩
          have hN4 := texts_next hN3 hb
          have HY : Hid (y.data.toList = actT ⟨6, n1, 0, [], [], ⟨3, co, tt, colK 0⟩, lnk0⟩) := hy
          clear hb hy hN3 hS h20 h1k
          cases heq : (y.toList == t.toList)
          · have HNO : Hid (∀ y, implDeed y = true → actT y ≠ t.data.toList) := act_no HRD.out.1 HCT.out (Or.inr (by rw [← HY.out]; exact not_list (beq_eq_false_iff_ne.1 heq)))
            have hth := hN4.2.2.out.1.th
            go_wp2_with (refine st_act rfl _ _ rfl _ rfl zeros rfl rfl hth (by simp [Value.oneCell']) ?_)
            exact read_none hN4.2.2.out.1 HNO.out rfl rfl rfl
          · have hma := n_named_act n1 co tt
            have HE : Hid (actT ⟨6, n1, 0, [], [], ⟨3, co, tt, colK 0⟩, lnk0⟩ = t.data.toList) := by
              have h := list_of (beq_iff_eq.1 heq)
              rw [HY.out] at h
              exact h
            go_wp2_with fail
            refine (named_act n1 co tt _).mono ?_
            rintro e w5 ⟨rfl, hb⟩
            have hN5 := texts_next hN4 hb
            clear hb hma hN4
            have hth := hN5.2.2.out.1.th
            go_wp2_with (refine st_act rfl _ _ rfl _ rfl [.int .i64 6, .string n1, .int .i64 0, .slice none 0 0, .slice none 0 0, .int .i64 3, .string co, .string tt, .string ⟨#[]⟩, .int .i64 0, .bool false, .bool false, .int .i64 0, .int .i64 0, .string ⟨#[]⟩, .string ⟨#[]⟩, .string ⟨#[]⟩, .string ⟨#[]⟩, .int .i64 0] rfl rfl hth (by simp [Value.oneCell']) ?_)
            exact read_some (x := ⟨6, n1, 0, [], [], ⟨3, co, tt, colK 0⟩, lnk0⟩) hN5.2.2.out.1 hW0 (own_none _ _ _ _) (own_none _ _ _ _) (act_is HRD.out.1 HCT.out HI.out rfl HE.out) rfl rfl rfl
      · have hmo := n_kindd_ok n1 co k
        go_wp2_with fail
        refine (kindd_ok n1 co k _ HRD.out.2.1 HRD.out.2.2.2.2.1.1).mono ?_
        rintro e w3 ⟨rfl, hb⟩
        have hN3 := texts_next hN hb
        clear hb hmo hN
        cases hok : (nameOk n1 && (nameOk co && kindOk k))
        · have HNO : Hid (∀ y, implDeed y = true → actT y ≠ t.data.toList) := act_no HRD.out.1 HCT.out (Or.inl hok)
          have hth := hN3.2.2.out.1.th
          go_wp2_with (refine st_act rfl _ _ rfl _ rfl zeros rfl rfl hth (by simp [Value.oneCell']) ?_)
          exact read_none hN3.2.2.out.1 HNO.out rfl rfl rfl
        · have HI : Hid (implDeed ⟨6, n1, 0, [], [], ⟨4, co, ⟨#[]⟩, colK k⟩, lnk0⟩ = true) := hok
          have hS := hok
          simp only [Bool.and_eq_true] at hS
          have h20 := Nat.le_trans (words_le HI.out).1 (by decide : 8 ≤ 20)
          have h1k := Nat.le_trans (text_le HI.out) (by decide : 168 ≤ 1000)
          go_wp2_with fail
          refine (text_kindd n1 co k _ hN3.2.2.out.1.tb h20 h1k).mono ?_
          rintro e w4 ⟨y, rfl, hy, hb⟩
          have hN4 := texts_next hN3 hb
          have HY : Hid (y.data.toList = actT ⟨6, n1, 0, [], [], ⟨4, co, ⟨#[]⟩, colK k⟩, lnk0⟩) := hy
          clear hb hy hN3 hS h20 h1k
          cases heq : (y.toList == t.toList)
          · have HNO : Hid (∀ y, implDeed y = true → actT y ≠ t.data.toList) := act_no HRD.out.1 HCT.out (Or.inr (by rw [← HY.out]; exact not_list (beq_eq_false_iff_ne.1 heq)))
            have hth := hN4.2.2.out.1.th
            go_wp2_with (refine st_act rfl _ _ rfl _ rfl zeros rfl rfl hth (by simp [Value.oneCell']) ?_)
            exact read_none hN4.2.2.out.1 HNO.out rfl rfl rfl
          · have hma := n_kindd_act n1 co k
            have HE : Hid (actT ⟨6, n1, 0, [], [], ⟨4, co, ⟨#[]⟩, colK k⟩, lnk0⟩ = t.data.toList) := by
              have h := list_of (beq_iff_eq.1 heq)
              rw [HY.out] at h
              exact h
            go_wp2_with fail
            refine (kindd_act n1 co k _).mono ?_
            rintro e w5 ⟨rfl, hb⟩
            have hN5 := texts_next hN4 hb
            clear hb hma hN4
            have hth := hN5.2.2.out.1.th
            go_wp2_with (refine st_act rfl _ _ rfl _ rfl [.int .i64 6, .string n1, .int .i64 0, .slice none 0 0, .slice none 0 0, .int .i64 4, .string co, .string ⟨#[]⟩, .string ⟨#[]⟩, .int .i64 k, .bool false, .bool false, .int .i64 0, .int .i64 0, .string ⟨#[]⟩, .string ⟨#[]⟩, .string ⟨#[]⟩, .string ⟨#[]⟩, .int .i64 0] rfl rfl hth (by simp [Value.oneCell']) ?_)
            exact read_some (x := ⟨6, n1, 0, [], [], ⟨4, co, ⟨#[]⟩, colK k⟩, lnk0⟩) hN5.2.2.out.1 hW0 (own_none _ _ _ _) (own_none _ _ _ _) (act_is HRD.out.1 HCT.out HI.out rfl HE.out) rfl rfl rfl

end Go.Proofs.YtpcfebekkgfpjaaGreatDoor
