/- A column added: impl.stepOf, impl.ShapeDo and impl.RowDo there, over the seat's translation. -/
import Derived.Test.YtddcmibggdighaaNd3
import Derived.Test.YtddcmibggdighaaRwS5
namespace Go.Proofs.Ytddcmibggdighaa
open Go.RowKit

theorem m_add_cols (x : Array Value) (w : World) : (method 238 81 (.agg x) "loop.example/custumal/impl.cols").run Try.prog w = .ok (55, .agg x) w := by kernel_rfl
theorem m_add_vals (x : Array Value) (w : World) : (method 238 81 (.agg x) "loop.example/custumal/impl.vals").run Try.prog w = .ok (56, .agg x) w := by kernel_rfl

/-- The box at B holds a step in W, and may be written. -/
abbrev OwnS (B : Nat) (x y : Value) (W : World) : Prop := W.cell? ⟨B, 0, none⟩ = some x ∧ W.cell? ⟨B, 1, none⟩ = some y ∧ W.frozen? ⟨B, 0, none⟩ = false ∧ W.frozen? ⟨B, 1, none⟩ = false
theorem ownS_next {B C : Nat} {x y : Value} {W W' : World} (h : OwnS B x y W) (hB : B < C) (hb : Below C W W') : OwnS B x y W' := by
  have hc := fun o => hb.cell (p := ⟨B, o, none⟩) hB
  have hf := fun o => hb.frozen (p := ⟨B, o, none⟩) hB
  unfold OwnS
  simp only [hc, hf]
  exact h
theorem ownS_box (w : World) (x y : Value) (t : TypeId) : OwnS w.heap.size x y (w.alloc (.cells #[x, y] t)) := by
  refine ⟨?_, ?_, ?_, ?_⟩
  all_goals go_simp

/-- The column with Need. -/
def needed (c : ACol) : ACol := { c with nd := true }

/-- While a step is made: the change in its box, room for the step, the columns. -/
def SG (w : World) (c : ACol) (a : Option Addr) (L : List ACol) (W : World) : Prop := CH w.heap.size (needed c) W ∧ OwnS (w.heap.size + 1) .nilIface (.slice none 0 0) W ∧ w.heap.size + 2 ≤ W.heap.size ∧ ColsAt W a L ∧ Below w.heap.size w W
theorem SG.next {w : World} {c : ACol} {a : Option Addr} {L : List ACol} {W W' : World} (h : SG w c a L W) (hb : Below W.heap.size W W') : SG w c a L W' := by
  obtain ⟨h1, h2, h3, h4, h5⟩ := h
  have := hb.size
  exact ⟨ch_next h1 (by omega) hb, ownS_next h2 (by omega) hb, by omega, h4.keep hb, h5.trans (hb.mono h5.size)⟩
theorem sg_made {w : World} {c : ACol} {a : Option Addr} {L : List ACol} (hL : ColsAt w a L) (s t : TypeId) : SG w c a L ((w.alloc (.cells #[.int .i64 1, .string ⟨#[]⟩, .string ⟨#[]⟩, .string c.nm, .int .i64 c.kd, .bool true, .bool c.oc, .int .i64 c.k, .int .i64 c.n, .string c.s] s)).alloc (.cells #[.nilIface, .slice none 0 0] t)) := by
  have h1 := alloc_below w (.cells #[.int .i64 1, .string ⟨#[]⟩, .string ⟨#[]⟩, .string c.nm, .int .i64 c.kd, .bool true, .bool c.oc, .int .i64 c.k, .int .i64 c.n, .string c.s] s)
  have h2 := alloc_below (w.alloc (.cells #[.int .i64 1, .string ⟨#[]⟩, .string ⟨#[]⟩, .string c.nm, .int .i64 c.kd, .bool true, .bool c.oc, .int .i64 c.k, .int .i64 c.n, .string c.s] s)) (.cells #[.nilIface, .slice none 0 0] t)
  have h3 := ownS_box (w.alloc (.cells #[.int .i64 1, .string ⟨#[]⟩, .string ⟨#[]⟩, .string c.nm, .int .i64 c.kd, .bool true, .bool c.oc, .int .i64 c.k, .int .i64 c.n, .string c.s] s)) .nilIface (.slice none 0 0) t
  rw [show (w.alloc (.cells #[.int .i64 1, .string ⟨#[]⟩, .string ⟨#[]⟩, .string c.nm, .int .i64 c.kd, .bool true, .bool c.oc, .int .i64 c.k, .int .i64 c.n, .string c.s] s)).heap.size = w.heap.size + 1 by simp] at h3
  exact ⟨ch_next (ch_box w (needed c) s) (C := w.heap.size + 1) (by omega) (h2.mono (by simp)), h3, by simp, (hL.keep h1).keep h2, h1.trans (h2.mono (by simp))⟩

theorem cols_set2 {W : World} {b C o : Nat} {L : List ACol} {v : Value} (h : ColsAt W (some ⟨b, 0, none⟩) L) (hC : C ≠ b) : ColsAt (W.setCell ⟨C, o, none⟩ v) (some ⟨b, 0, none⟩) L := by
  rcases h with h3 | ⟨b', o', e, hlt, hr⟩
  · exact Or.inl h3
  · cases e
    refine Or.inr ⟨b, 0, rfl, by simpa [World.setCell] using hlt, fun i c hc j u hu => ?_⟩
    rw [World.cell?_of_block (w := W) (a := ⟨b, 0 + i * 7 + j, none⟩) (Below.heap_setCell W ⟨C, o, none⟩ v b (Ne.symm hC))]
    exact hr i c hc j u hu

set_option maxRecDepth 100000 in
set_option maxHeartbeats 2000000 in
theorem step_no (c : ACol) (b o cap : Nat) (L : List ACol) (w : World) (hL : ColsAt w (some ⟨b, o, none⟩) L) (hf : ∀ d ∈ L, d.fit) (hok : shapeOk L = true) (hk : c.k = 0) :
    Calls Try.prog 17 #[.slice (some ⟨b, o, none⟩) L.length cap, .agg #[.int .i64 1, .string ⟨#[]⟩, .string ⟨#[]⟩, .string c.nm, .int .i64 c.kd, .bool true, .bool c.oc, .int .i64 c.k, .int .i64 c.n, .string c.s]] w fun e w' => ∃ b1 c1, e = .returned (.tuple #[.agg #[(.iface 81 (.agg #[.string c.nm, .int .i64 c.kd, .bool true, .bool c.oc, .int .i64 c.k, .int .i64 c.n, .string c.s])), .slice (some ⟨b1, 0, none⟩) (L.length + 1) c1], .bool false]) ∧ Below w.heap.size w w' := by
  have h15 := shape_firsts L hok
  have hm : L.length ≤ maxLen := by unfold maxLen; omega
  have hkb : (c.k != 0) = false := by rw [hk]; rfl
  have hmc := m_add_cols #[.string c.nm, .int .i64 c.kd, .bool true, .bool c.oc, .int .i64 c.k, .int .i64 c.n, .string c.s]
  have H0 : Hid (SG w c (some ⟨b, o, none⟩) L ((w.alloc (.cells #[.int .i64 1, .string ⟨#[]⟩, .string ⟨#[]⟩, .string c.nm, .int .i64 c.kd, .bool true, .bool c.oc, .int .i64 c.k, .int .i64 c.n, .string c.s] 33)).alloc (.cells #[.nilIface, .slice none 0 0] 49))) := sg_made hL _ _
  clear hL hk
  go_enter Try.func17, Try.ntmps17
  go_wp2_with fail
  refine (impl_shape _ _ _ _ H0.out.2.2.2.1 hf hm).mono ?_
  rintro e w1 ⟨rfl, hb⟩
  rw [hok]
  have H1 : Hid (SG w c (some ⟨b, o, none⟩) L w1) := H0.out.next hb
  have hc1 := H1.out.1
  clear H0 hb
  unfold needed at hc1
  go_wp2_with fail
  refine (change_add (needed c) (some ⟨b, o, none⟩) cap L _ H1.out.2.2.2.1 hf h15.2.2).mono ?_
  rintro e w2 ⟨rfl, hb⟩
  have H2 : Hid (SG w c (some ⟨b, o, none⟩) L w2) := H1.out.next hb
  clear H1 hb hc1
  unfold needed
  go_wp2_with fail
  refine (add_cols c b o cap L _ H2.out.2.2.2.1 (by omega) h15.2.1).mono ?_
  rintro e w3 ⟨b1, c1, rfl, _, _, hb⟩
  rw [hkb]
  have H3 : Hid (SG w c (some ⟨b, o, none⟩) L w3) := H2.out.next hb
  have hO := H3.out.2.1
  have hB : Hid (Below w.heap.size w w3) := H3.out.2.2.2.2
  clear H2 hb H3
  go_wp2_with fail
  exact bodyPost_ret (v := .tuple #[.agg #[(.iface 81 (.agg #[.string c.nm, .int .i64 c.kd, .bool true, .bool c.oc, .int .i64 c.k, .int .i64 c.n, .string c.s])), .slice (some ⟨b1, 0, none⟩) (L.length + 1) c1], .bool false]) (by simp [results, Try.results17, go_sem, hO]) rfl ⟨_, _, rfl, (hB.out.setCell (p := ⟨w.heap.size + 1, 0, none⟩) (by simp) _).setCell (p := ⟨w.heap.size + 1, 1, none⟩) (by simp) _⟩

theorem len_more (L : List ACol) (c : ACol) : (L ++ [c]).length = L.length + 1 := by simp
theorem shape_more (b1 c1 : Nat) (L : List ACol) (c : ACol) (w : World) (hL : ColsAt w (some ⟨b1, 0, none⟩) (L ++ [c])) (hf : ∀ d ∈ L ++ [c], d.fit) (hm : L.length ≤ 50) :
    Calls Try.prog 13 #[.slice (some ⟨b1, 0, none⟩) (L.length + 1) c1] w fun e w' => e = .returned (.bool (shapeOk (L ++ [c]))) ∧ Below w.heap.size w w' := by
  have := impl_shape (some ⟨b1, 0, none⟩) c1 (L ++ [c]) w hL hf (by rw [len_more]; unfold maxLen; omega)
  rw [len_more] at this
  exact this

set_option maxRecDepth 100000 in
set_option maxHeartbeats 2000000 in
theorem step_yes (c : ACol) (b o cap : Nat) (L : List ACol) (w : World) (hL : ColsAt w (some ⟨b, o, none⟩) L) (hf : ∀ d ∈ L, d.fit) (hg : ∀ d ∈ L ++ [needed c], d.fit) (hok : shapeOk L = true) (hkb : (c.k != 0) = true) :
    Calls Try.prog 17 #[.slice (some ⟨b, o, none⟩) L.length cap, .agg #[.int .i64 1, .string ⟨#[]⟩, .string ⟨#[]⟩, .string c.nm, .int .i64 c.kd, .bool true, .bool c.oc, .int .i64 c.k, .int .i64 c.n, .string c.s]] w fun e w' => ∃ b1 c1, e = .returned (.tuple #[.agg #[(.iface 81 (.agg #[.string c.nm, .int .i64 c.kd, .bool true, .bool c.oc, .int .i64 c.k, .int .i64 c.n, .string c.s])), .slice (some ⟨b1, 0, none⟩) (L.length + 1) c1], .bool (shapeOk (L ++ [needed c]))]) ∧ ColsAt w' (some ⟨b1, 0, none⟩) (L ++ [needed c]) ∧ Below w.heap.size w w' := by
  have h15 := shape_firsts L hok
  have hm : L.length ≤ maxLen := by unfold maxLen; omega
  have hmc := m_add_cols #[.string c.nm, .int .i64 c.kd, .bool true, .bool c.oc, .int .i64 c.k, .int .i64 c.n, .string c.s]
  have H0 : Hid (SG w c (some ⟨b, o, none⟩) L ((w.alloc (.cells #[.int .i64 1, .string ⟨#[]⟩, .string ⟨#[]⟩, .string c.nm, .int .i64 c.kd, .bool true, .bool c.oc, .int .i64 c.k, .int .i64 c.n, .string c.s] 33)).alloc (.cells #[.nilIface, .slice none 0 0] 49))) := sg_made hL _ _
  clear hL
  go_enter Try.func17, Try.ntmps17
  go_wp2_with fail
  refine (impl_shape _ _ _ _ H0.out.2.2.2.1 hf hm).mono ?_
  rintro e w1 ⟨rfl, hb⟩
  rw [hok]
  have H1 : Hid (SG w c (some ⟨b, o, none⟩) L w1) := H0.out.next hb
  have hc1 := H1.out.1
  clear H0 hb
  unfold needed at hc1
  go_wp2_with fail
  refine (change_add (needed c) (some ⟨b, o, none⟩) cap L _ H1.out.2.2.2.1 hf h15.2.2).mono ?_
  rintro e w2 ⟨rfl, hb⟩
  have H2 : Hid (SG w c (some ⟨b, o, none⟩) L w2) := H1.out.next hb
  clear H1 hb hc1
  have HG : Hid (∀ d ∈ L ++ [needed c], d.fit) := hg
  clear hg
  unfold needed
  go_wp2_with fail
  refine (add_cols c b o cap L _ H2.out.2.2.2.1 (by omega) h15.2.1).mono ?_
  rintro e w3 ⟨b1, c1, rfl, hb1, hC, hb⟩
  rw [hkb]
  have H3 : Hid (SG w c (some ⟨b, o, none⟩) L w3) := H2.out.next hb
  have hne : Hid (w.heap.size + 1 ≠ b1) := by
    show w.heap.size + 1 ≠ b1
    have := H2.out.2.2.1
    omega
  have HC : Hid (ColsAt w3 (some ⟨b1, 0, none⟩) (L ++ [needed c])) := hC
  clear H2 hb hC hb1
  go_wp2_with fail
  refine (shape_more b1 c1 L (needed c) _ HC.out HG.out (by omega)).mono ?_
  rintro e w4 ⟨rfl, hb⟩
  have H4 : Hid (SG w c (some ⟨b, o, none⟩) L w4) := H3.out.next hb
  have HD : Hid (ColsAt w4 (some ⟨b1, 0, none⟩) (L ++ [needed c])) := HC.out.keep hb
  have hO := H4.out.2.1
  have hB : Hid (Below w.heap.size w w4) := H4.out.2.2.2.2
  clear H3 hb H4 HC
  go_wp2_with fail
  exact bodyPost_ret (v := .tuple #[.agg #[(.iface 81 (.agg #[.string c.nm, .int .i64 c.kd, .bool true, .bool c.oc, .int .i64 c.k, .int .i64 c.n, .string c.s])), .slice (some ⟨b1, 0, none⟩) (L.length + 1) c1], .bool (shapeOk (L ++ [needed c]))]) (by simp [results, Try.results17, go_sem, hO]) rfl ⟨_, _, rfl, cols_set2 (cols_set2 HD.out hne.out) hne.out, (hB.out.setCell (p := ⟨w.heap.size + 1, 0, none⟩) (by simp) _).setCell (p := ⟨w.heap.size + 1, 1, none⟩) (by simp) _⟩

/-- The change in its box, and the columns, lie in W, and W lies over w. -/
def TG (w : World) (c : ACol) (a : Option Addr) (L : List ACol) (W : World) : Prop := CH w.heap.size (needed c) W ∧ w.heap.size < W.heap.size ∧ ColsAt W a L ∧ Below w.heap.size w W
theorem TG.next {w : World} {c : ACol} {a : Option Addr} {L : List ACol} {W W' : World} (h : TG w c a L W) (hb : Below W.heap.size W W') : TG w c a L W' := by
  obtain ⟨h1, h2, h3, h4⟩ := h
  have := hb.size
  exact ⟨ch_next h1 h2 hb, by omega, h3.keep hb, h4.trans (hb.mono h4.size)⟩
theorem tg_made {w : World} {c : ACol} {a : Option Addr} {L : List ACol} (hL : ColsAt w a L) (s : TypeId) : TG w c a L (w.alloc (.cells #[.int .i64 1, .string ⟨#[]⟩, .string ⟨#[]⟩, .string c.nm, .int .i64 c.kd, .bool true, .bool c.oc, .int .i64 c.k, .int .i64 c.n, .string c.s] s)) :=
  ⟨ch_box w (needed c) s, by simp, hL.keep (alloc_below _ _), alloc_below _ _⟩

set_option maxRecDepth 100000 in
set_option maxHeartbeats 2000000 in
theorem shape_do_no (c : ACol) (b o cap : Nat) (L : List ACol) (w : World) (hL : ColsAt w (some ⟨b, o, none⟩) L) (hf : ∀ d ∈ L, d.fit) (hok : shapeOk L = true) (hk : c.k = 0) :
    Calls Try.prog 7 #[.slice (some ⟨b, o, none⟩) L.length cap, .agg #[.int .i64 1, .string ⟨#[]⟩, .string ⟨#[]⟩, .string c.nm, .int .i64 c.kd, .bool true, .bool c.oc, .int .i64 c.k, .int .i64 c.n, .string c.s]] w fun e w' => ∃ x, e = .returned (.tuple #[x, .bool false]) ∧ Below w.heap.size w w' := by
  have h15 := shape_firsts L hok
  have hm : L.length ≤ maxLen := by unfold maxLen; omega
  have H0 : Hid (TG w c (some ⟨b, o, none⟩) L (w.alloc (.cells #[.int .i64 1, .string ⟨#[]⟩, .string ⟨#[]⟩, .string c.nm, .int .i64 c.kd, .bool true, .bool c.oc, .int .i64 c.k, .int .i64 c.n, .string c.s] 33))) := tg_made hL _
  have hkh : Hid (c.k = 0) := hk
  clear hL hk
  go_enter Try.func7, Try.ntmps7
  go_wp2_with fail
  refine (impl_shape _ _ _ _ H0.out.2.2.1 hf hm).mono ?_
  rintro e w1 ⟨rfl, hb⟩
  rw [hok]
  have H1 : Hid (TG w c (some ⟨b, o, none⟩) L w1) := H0.out.next hb
  have hc1 := H1.out.1
  clear H0 hb
  unfold needed at hc1
  go_wp2_with fail
  refine (step_no c b o cap L _ H1.out.2.2.1 hf hok hkh.out).mono ?_
  rintro e w2 ⟨b1, c1, rfl, hb⟩
  have H2 : Hid (TG w c (some ⟨b, o, none⟩) L w2) := H1.out.next hb
  clear H1 hb hc1
  have n2 : Hid (Below w2.heap.size w2 (w2.alloc (.cells #[(.iface 81 (.agg #[.string c.nm, .int .i64 c.kd, .bool true, .bool c.oc, .int .i64 c.k, .int .i64 c.n, .string c.s])), .slice (some ⟨b1, 0, none⟩) (L.length + 1) c1] 49))) := alloc_below _ _
  go_wp2_with fail
  refine (clone_cols b o cap L _ (H2.out.next n2.out).2.2.1 (by omega)).mono ?_
  rintro e w3 ⟨v3, rfl, _, hb⟩
  have hP : Hid (Below w.heap.size w w3) := ((H2.out.next n2.out).next hb).2.2.2
  clear hb n2 H2
  go_wp2_with fail
  go_ret2
  exact ⟨_, rfl, hP.out⟩

set_option maxRecDepth 100000 in
set_option maxHeartbeats 2000000 in
theorem shape_do_yes (c : ACol) (b o cap : Nat) (L : List ACol) (w : World) (hL : ColsAt w (some ⟨b, o, none⟩) L) (hf : ∀ d ∈ L, d.fit) (hg : ∀ d ∈ L ++ [needed c], d.fit) (hok : shapeOk L = true) (hkb : (c.k != 0) = true) (hsk : shapeOk (L ++ [needed c]) = true) :
    Calls Try.prog 7 #[.slice (some ⟨b, o, none⟩) L.length cap, .agg #[.int .i64 1, .string ⟨#[]⟩, .string ⟨#[]⟩, .string c.nm, .int .i64 c.kd, .bool true, .bool c.oc, .int .i64 c.k, .int .i64 c.n, .string c.s]] w fun e w' => ∃ b1 c1, e = .returned (.tuple #[.slice (some ⟨b1, 0, none⟩) (L.length + 1) c1, .bool true]) ∧ ColsAt w' (some ⟨b1, 0, none⟩) (L ++ [needed c]) ∧ Below w.heap.size w w' := by
  have h15 := shape_firsts L hok
  have hm : L.length ≤ maxLen := by unfold maxLen; omega
  have H0 : Hid (TG w c (some ⟨b, o, none⟩) L (w.alloc (.cells #[.int .i64 1, .string ⟨#[]⟩, .string ⟨#[]⟩, .string c.nm, .int .i64 c.kd, .bool true, .bool c.oc, .int .i64 c.k, .int .i64 c.n, .string c.s] 33))) := tg_made hL _
  have HK : Hid ((∀ d ∈ L ++ [needed c], d.fit) ∧ (c.k != 0) = true ∧ shapeOk (L ++ [needed c]) = true) := ⟨hg, hkb, hsk⟩
  clear hL hg hkb hsk
  go_enter Try.func7, Try.ntmps7
  go_wp2_with fail
  refine (impl_shape _ _ _ _ H0.out.2.2.1 hf hm).mono ?_
  rintro e w1 ⟨rfl, hb⟩
  rw [hok]
  have H1 : Hid (TG w c (some ⟨b, o, none⟩) L w1) := H0.out.next hb
  have hc1 := H1.out.1
  clear H0 hb
  unfold needed at hc1
  go_wp2_with fail
  refine (step_yes c b o cap L _ H1.out.2.2.1 hf HK.out.1 hok HK.out.2.1).mono ?_
  rintro e w2 ⟨b1, c1, rfl, hC, hb⟩
  rw [HK.out.2.2]
  have H2 : Hid (TG w c (some ⟨b, o, none⟩) L w2) := H1.out.next hb
  have HC : Hid (ColsAt w2 (some ⟨b1, 0, none⟩) (L ++ [needed c])) := hC
  clear H1 hb hc1 hC
  have n2 : Hid (Below w2.heap.size w2 (w2.alloc (.cells #[(.iface 81 (.agg #[.string c.nm, .int .i64 c.kd, .bool true, .bool c.oc, .int .i64 c.k, .int .i64 c.n, .string c.s])), .slice (some ⟨b1, 0, none⟩) (L.length + 1) c1] 49))) := alloc_below _ _
  go_wp2_with fail
  go_ret2
  exact ⟨_, _, rfl, HC.out.keep n2.out, (H2.out.next n2.out).2.2.2⟩

set_option maxRecDepth 100000 in
set_option maxHeartbeats 2000000 in
theorem row_do_yes (c : ACol) (b o cap bv ov cv : Nat) (L : List ACol) (V : List AVal) (w : World) (hL : ColsAt w (some ⟨b, o, none⟩) L) (hV : ValsAt w (some ⟨bv, ov, none⟩) V) (hlen : V.length = L.length) (hf : ∀ d ∈ L, d.fit) (hg : ∀ d ∈ L ++ [needed c], d.fit) (hok : shapeOk L = true) (hkb : (c.k != 0) = true) (hsk : shapeOk (L ++ [needed c]) = true) :
    Calls Try.prog 8 #[.slice (some ⟨b, o, none⟩) L.length cap, .agg #[.int .i64 1, .string ⟨#[]⟩, .string ⟨#[]⟩, .string c.nm, .int .i64 c.kd, .bool true, .bool c.oc, .int .i64 c.k, .int .i64 c.n, .string c.s], .slice (some ⟨bv, ov, none⟩) V.length cv] w fun e w' => ∃ b1 c1, e = .returned (.slice (some ⟨b1, 0, none⟩) (V.length + 1) c1) ∧ ValsAt w' (some ⟨b1, 0, none⟩) (V ++ [⟨c.k, c.n, c.s⟩]) ∧ Below w.heap.size w w' := by
  have h15 := shape_firsts L hok
  have hmc := m_add_vals #[.string c.nm, .int .i64 c.kd, .bool true, .bool c.oc, .int .i64 c.k, .int .i64 c.n, .string c.s]
  have H0 : Hid (TG w c (some ⟨b, o, none⟩) L (w.alloc (.cells #[.int .i64 1, .string ⟨#[]⟩, .string ⟨#[]⟩, .string c.nm, .int .i64 c.kd, .bool true, .bool c.oc, .int .i64 c.k, .int .i64 c.n, .string c.s] 33)) ∧ ValsAt (w.alloc (.cells #[.int .i64 1, .string ⟨#[]⟩, .string ⟨#[]⟩, .string c.nm, .int .i64 c.kd, .bool true, .bool c.oc, .int .i64 c.k, .int .i64 c.n, .string c.s] 33)) (some ⟨bv, ov, none⟩) V) := ⟨tg_made hL _, hV.keep (alloc_below _ _)⟩
  have hc0 := H0.out.1.1
  have HK : Hid ((∀ d ∈ L ++ [needed c], d.fit) ∧ (c.k != 0) = true ∧ shapeOk (L ++ [needed c]) = true) := ⟨hg, hkb, hsk⟩
  have hle : ((V.length : Int) != L.length) = false := bne_eq_false_iff_eq.2 (by omega)
  have hl1 : V.length ≤ 50 := by omega
  have hl2 : 1 ≤ V.length := by omega
  clear hL hg hkb hsk hV hlen
  unfold needed at hc0
  go_enter Try.func8, Try.ntmps8
  go_wp2_with fail
  refine (step_yes c b o cap L _ H0.out.1.2.2.1 hf HK.out.1 hok HK.out.2.1).mono ?_
  rintro e w2 ⟨b1, c1, rfl, hC, hb⟩
  rw [HK.out.2.2]
  have H2 : Hid (TG w c (some ⟨b, o, none⟩) L w2 ∧ ValsAt w2 (some ⟨bv, ov, none⟩) V) := ⟨H0.out.1.next hb, H0.out.2.keep hb⟩
  clear H0 hb hc0 hC
  have n2 : Hid (Below w2.heap.size w2 (w2.alloc (.cells #[(.iface 81 (.agg #[.string c.nm, .int .i64 c.kd, .bool true, .bool c.oc, .int .i64 c.k, .int .i64 c.n, .string c.s])), .slice (some ⟨b1, 0, none⟩) (L.length + 1) c1] 49))) := alloc_below _ _
  go_wp2_with fail
  refine (add_vals c bv ov cv V _ (H2.out.2.keep n2.out) hl1 hl2).mono ?_
  rintro e w3 ⟨b3, c3, rfl, _, hV3, hb⟩
  have HP : Hid (ValsAt w3 (some ⟨b3, 0, none⟩) (V ++ [⟨c.k, c.n, c.s⟩]) ∧ Below w.heap.size w w3) := ⟨hV3, ((H2.out.1.next n2.out).next hb).2.2.2⟩
  clear hV3 hb n2 H2
  go_wp2_with fail
  go_ret
  exact ⟨_, _, rfl, HP.out.1, HP.out.2⟩

end Go.Proofs.Ytddcmibggdighaa
