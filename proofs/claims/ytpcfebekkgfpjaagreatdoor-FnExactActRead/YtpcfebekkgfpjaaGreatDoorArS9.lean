/- The contract of spec.l5Words, over the seat's translation. -/
import Derived.Test.YtpcfebekkgfpjaaGreatDoorG32
import Derived.Test.YtpcfebekkgfpjaaGreatDoorArP3
import Derived.Test.YtpcfebekkgfpjaaGreatDoorG03
import Derived.Deep.Upon
namespace Go.Proofs.YtpcfebekkgfpjaaGreatDoor
open Go.RowKit

abbrev zeros9 : List Value := [.int .i64 0, .string ⟨#[]⟩, .int .i64 0, .slice none 0 0, .slice none 0 0, .int .i64 0, .string ⟨#[]⟩, .string ⟨#[]⟩, .string ⟨#[]⟩, .int .i64 0, .bool false, .bool false, .int .i64 0, .int .i64 0, .string ⟨#[]⟩, .string ⟨#[]⟩, .string ⟨#[]⟩, .string ⟨#[]⟩, .int .i64 0]
/-- The nineteen values of what is done so far. -/
abbrev doneL (kd : Int) (nm : ByteArray) (id : Int) (u c : Value) (g : AChg) : List Value := [.int .i64 kd, .string nm, .int .i64 id, u, c, .int .i64 g.kd, .string g.nm, .string g.nw, .string g.c.nm, .int .i64 g.c.kd, .bool g.c.nd, .bool g.c.oc, .int .i64 g.c.k, .int .i64 g.c.n, .string g.c.s, .string ⟨#[]⟩, .string ⟨#[]⟩, .string ⟨#[]⟩, .int .i64 0]
/-- What is done is made: its box and the answer's lie in W, the words too, and W lies over w. -/
structure WdS (w : World) (a : Option Addr) (ws : List ByteArray) (cs : List Value) (W : World) : Prop where
  ra : W.rangeAt (w.heap.size + 1) 0 cs
  th : W.there (w.heap.size + 1) 0 19
  rb : W.there w.heap.size 0 19
  lt : w.heap.size + 1 < W.heap.size
  st : StrsAt W a ws
  bl : Below w.heap.size w W
theorem WdS.next {w : World} {a : Option Addr} {ws : List ByteArray} {cs : List Value} {W W' : World} (h : WdS w a ws cs W) (hb : Below W.heap.size W W') : WdS w a ws cs W' :=
  ⟨range_next h.ra h.lt hb, there_next h.th h.lt hb, there_next h.rb (Nat.lt_of_succ_lt h.lt) hb, Nat.lt_of_lt_of_le h.lt hb.size, h.st.keep hb, h.bl.trans (hb.mono h.bl.size)⟩
theorem strs_set {W : World} {a : Option Addr} {ws : List ByteArray} (h : StrsAt W a ws) (B o : Nat) (cs : List Value) (hB : ∀ b, a.map (·.block) = some b → b ≠ B) : StrsAt (W.setCells B o cs) a ws := by
  rcases h with h | ⟨b, q, rfl, hl, hr⟩
  · exact Or.inl h
  · have hne := hB b rfl
    refine Or.inr ⟨b, q, rfl, ?_, fun i x hx => ?_⟩
    · exact Nat.lt_of_lt_of_le hl (below_put (Below.refl 0 W) (Nat.zero_le _) _ _).size
    · rw [World.cell?_setCells_out B cs o W _ (fun e _ => absurd e hne)]
      exact hr i x hx
theorem wds_start (w : World) (b o : Nat) (ws : List ByteArray) (cs : List Value) (h : StrsAt w (some ⟨b, o, none⟩) ws) (hbl : b < w.heap.size) (hl : cs.length = 19) : WdS w (some ⟨b, o, none⟩) ws cs (((w.alloc (.cells zeros9.toArray 34)).alloc (.cells zeros9.toArray 34)).setCells (w.heap.size + 1) 0 cs) := by
  have A1 : Below w.heap.size w (w.alloc (.cells zeros9.toArray 34)) := (Below.refl _ _).alloc (Nat.le_refl _) _
  have A2 : Below (w.alloc (.cells zeros9.toArray 34)).heap.size (w.alloc (.cells zeros9.toArray 34)) ((w.alloc (.cells zeros9.toArray 34)).alloc (.cells zeros9.toArray 34)) := (Below.refl _ _).alloc (Nat.le_refl _) _
  have A0 : Below w.heap.size w ((w.alloc (.cells zeros9.toArray 34)).alloc (.cells zeros9.toArray 34)) := A1.trans (A2.mono A1.size)
  have hth := there_box (w.alloc (.cells zeros9.toArray 34)) zeros9 34 19 rfl
  rw [size_alloc] at hth
  have hsz : ((w.alloc (.cells zeros9.toArray 34)).alloc (.cells zeros9.toArray 34)).heap.size = w.heap.size + 2 := by simp
  refine ⟨World.rangeAt_setCells_same _ _ _ _ (by rw [hl]; exact hth), World.there_setCells hth _ _ _, World.there_setCells (there_next (there_box w zeros9 34 19 rfl) (by simp) A2) _ _ _, (by have := (below_put (Below.refl 0 ((w.alloc (.cells zeros9.toArray 34)).alloc (.cells zeros9.toArray 34))) (Nat.zero_le (w.heap.size + 1)) 0 cs).size; omega), strs_set (h.keep A0) _ _ _ (fun b' e => ?_), below_put A0 (by omega) _ _⟩
  have e' : b = b' := by simpa using e
  omega
/-- One value of what is done is set. -/
theorem WdS.set {w : World} {b o : Nat} {ws : List ByteArray} {cs : List Value} {W : World} (h : WdS w (some ⟨b, o, none⟩) ws cs W) (hbl : b < w.heap.size) (i : Nat) (v : Value) (ds : List Value) (hd : ds = cs.set i v) (hi : i < 19) (hl : cs.length = 19) : WdS w (some ⟨b, o, none⟩) ws ds (W.setCell ⟨w.heap.size + 1, i, none⟩ v) := by
  subst hd
  refine ⟨fun j u hu => ?_, World.there_setCells h.th (w.heap.size + 1) i [v], World.there_setCells h.rb (w.heap.size + 1) i [v], by simpa using h.lt, strs_set h.st (w.heap.size + 1) i [v] (fun b' e => ?_), h.bl.setCell (by show _ ≤ w.heap.size + 1; omega) _⟩
  · rw [Nat.zero_add]
    by_cases hj : j = i
    · subst hj
      rw [List.getElem?_set_self (by omega)] at hu
      cases hu
      exact World.cell?_setCell_same' _ _ _ (by have := (h.th j hi).1; rwa [Nat.zero_add] at this)
    · rw [List.getElem?_set_ne (fun e => hj e.symm)] at hu
      have h1 := h.ra j u hu
      rw [Nat.zero_add] at h1
      have h2 := World.cell?_setCells_out (w.heap.size + 1) [v] i W ⟨w.heap.size + 1, j, none⟩ (fun _ _ => by simp; omega)
      rw [← h1]
      exact h2
  · have e' : b = b' := by simpa using e
    omega
theorem WdS.cell {w : World} {a : Option Addr} {ws : List ByteArray} {cs : List Value} {W : World} (h : WdS w a ws cs W) {i : Nat} {v : Value} (hv : cs[i]? = some v) : W.cell? ⟨w.heap.size + 1, i, none⟩ = some v := by
  have := h.ra i v hv
  rwa [Nat.zero_add] at this
theorem WdS.free {w : World} {a : Option Addr} {ws : List ByteArray} {cs : List Value} {W : World} (h : WdS w a ws cs W) {i : Nat} (hi : i < 19) : W.frozen? ⟨w.heap.size + 1, i, none⟩ = false := by
  have := (h.th i hi).2
  rwa [Nat.zero_add] at this
theorem WdS.word {w : World} {b o : Nat} {ws : List ByteArray} {cs : List Value} {W : World} (h : WdS w (some ⟨b, o, none⟩) ws cs W) {i : Nat} {x : ByteArray} (hx : ws[i]? = some x) : W.cell? ⟨b, o + i, none⟩ = some (.string x) := by
  rcases h.st with h | ⟨b', o', e, _, hr⟩
  · rw [h] at hx; simp at hx
  · cases e; exact hr i x hx

theorem WdS.tail2 {w : World} {b o : Nat} {x y : ByteArray} {ws : List ByteArray} {cs : List Value} {W : World} (h : WdS w (some ⟨b, o, none⟩) (x :: y :: ws) cs W) : StrsAt W (some ⟨b, o + 2, none⟩) ws := by
  rcases h.st with h | ⟨b', o', e, hl, hr⟩
  · cases h
  · cases e
    refine Or.inr ⟨b, o + 2, rfl, hl, fun i z hz => ?_⟩
    have := hr (i + 2) z (by simpa using hz)
    rwa [show o + (i + 2) = o + 2 + i by omega] at this
theorem own_apart9 {W : World} {base b : Nat} {e : TypeId} {size : Nat} {v : Value} {n : Nat} {xs : List Value} (h : W.ownsRow base e size v n xs) (hb : b < base) (o : Nat) (cs : List Value) : (W.setCells b o cs).ownsRow base e size v n xs := by
  refine ⟨h.1, ?_⟩
  rcases h.2 with h2 | ⟨g, cap, cur, hv, hg, hh, hr⟩
  · exact Or.inl h2
  · exact Or.inr ⟨g, cap, cur, hv, hg, by rw [World.heap_setCells_other W b o cs (blk_lt hh) (by omega)]; exact hh, hr⟩
theorem own_low {W : World} {base b : Nat} {e : TypeId} {size : Nat} {v : Value} {n : Nat} {xs : List Value} (h : W.ownsRow base e size v n xs) (hb : b ≤ base) : W.ownsRow b e size v n xs := by
  refine ⟨h.1, ?_⟩
  rcases h.2 with h2 | ⟨g, cap, cur, hv, hg, hr⟩
  · exact Or.inl h2
  · exact Or.inr ⟨g, cap, cur, hv, by omega, hr⟩
theorem own_none9 (W : World) (b : Nat) (e : TypeId) (size : Nat) : W.ownsRow b e size (.slice none 0 0) 0 [] := ⟨by simp, Or.inl ⟨rfl, rfl⟩⟩
/-- What l5Words gives. -/
def WordsRd (w : World) (verb nm : ByteArray) (ws : List ByteArray) (v : Value) (W : World) : Prop := ∃ x, ActV w W x v ∧ x.fit ∧ ActRd (verb.data.toList :: nm.data.toList :: ws.map (·.data.toList)) x
theorem words_ret {w W : World} {b o : Nat} {verb nm : ByteArray} {ws : List ByteArray} {a : Act} {x : AAct} {u c : Value} (H : WdS w (some ⟨b, o, none⟩) (verb :: nm :: ws) [.int .i64 x.kd, .string x.nm, .int .i64 x.id, u, c, .int .i64 x.g.kd, .string x.g.nm, .string x.g.nw, .string x.g.c.nm, .int .i64 x.g.c.kd, .bool x.g.c.nd, .bool x.g.c.oc, .int .i64 x.g.c.k, .int .i64 x.g.c.n, .string x.g.c.s, .string x.l.fr, .string x.l.co, .string x.l.tt, .int .i64 x.l.hw] W) {C : Nat} (hC : w.heap.size + 1 < C)
    (hu : W.ownsRow C 102 4 u x.sets.length (x.sets.flatMap ASet.cells)) (hc : W.ownsRow C 28 7 c x.cols.length (x.cols.flatMap ACol.cells)) (hf : x.fit) (hr : ActRd (verb.data.toList :: nm.data.toList :: ws.map (·.data.toList)) x)
    (h2 : a.tmps.getD 2 undef = .pointer (some ⟨w.heap.size, 0, none⟩)) (hd : a.defers = []) :
    bodyPost Tryz.prog Tryz.f38 (fun e w' => ∃ v, e = .returned v ∧ WordsRd w verb nm ws v w') .ret a (W.setCells w.heap.size 0 [.int .i64 x.kd, .string x.nm, .int .i64 x.id, u, c, .int .i64 x.g.kd, .string x.g.nm, .string x.g.nw, .string x.g.c.nm, .int .i64 x.g.c.kd, .bool x.g.c.nd, .bool x.g.c.oc, .int .i64 x.g.c.k, .int .i64 x.g.c.n, .string x.g.c.s, .string x.l.fr, .string x.l.co, .string x.l.tt, .int .i64 x.l.hw]) :=
  bodyPost_ret (results_cell Tryz.results38 h2 (run_loadVar_mid _ _ 0 _ _ _ (World.rangeAt_setCells_same _ _ _ _ H.rb) Tryz.underlying34 rfl (by rw [act_size]; rfl))) hd ⟨_, rfl, x, ⟨u, c, rfl, own_low (own_apart9 hu (by omega) 0 _) (by omega), own_low (own_apart9 hc (by omega) 0 _) (by omega), below_put H.bl (Nat.le_refl _) 0 _⟩, hf, hr⟩
theorem rd_put2 {verb nm : ByteArray} {ws : List ByteArray} {M : List ASet} (hM : ∀ L : List ASet, (∀ c ∈ L, c.ok = true) → L.length ≤ 5 → ws.map (·.data.toList) = L.map setW → M = L) (hv : verb.toList = [112, 117, 116]) : ActRd (verb.data.toList :: nm.data.toList :: ws.map (·.data.toList)) ⟨3, nm, 0, M, [], chg0, lnk0⟩ := fun y hy e => by
  rw [ByteArray.toList_eq] at hv
  have hfew := deed_few hy
  rcases act_inv hy e with h | h | h | h | h | h | h | h | h
  case inr.inr.inl =>
    obtain ⟨_, h2, h3, h4, h5⟩ := h
    rw [h2] at hfew ⊢
    rw [bytes_same h3, hM _ h5 hfew.1 h4]
  all_goals exact absurd h.1 (by rw [hv]; decide)
theorem setm_fit {M : List ASet} (h : ∀ c ∈ M, c.nm.size ≤ 1048576 ∧ c.s.size ≤ 1048576) (h6 : M.length ≤ 6) : (∀ c ∈ M, c.fit) ∧ M.length ≤ maxLen := by
  refine ⟨fun c hc => ?_, by unfold maxLen; omega⟩
  have := h c hc
  unfold ASet.fit maxLen
  omega
theorem fit0 {n : Nat} (h : n ≤ 1048576) : n ≤ maxLen := by unfold maxLen; omega
theorem nochg : chg0.fit := by unfold AChg.fit ACol.fit maxLen; decide
theorem nolnk : lnk0.fit := by unfold ALnk.fit maxLen; decide

theorem own_sets9 {W : World} {base : Nat} {v : Value} {L : List ASet} (h : W.ownsRow base 102 4 v L.length (L.flatMap ASet.cells)) : ∃ a cap, v = .slice a L.length cap ∧ True := by
  rcases h.2 with ⟨h2, h3⟩ | ⟨b, cap, cur, rfl, _⟩
  · have hL : L = [] := List.eq_nil_of_length_eq_zero h3
    subst hL
    exact ⟨none, 0, h2, trivial⟩
  · exact ⟨_, cap, rfl, trivial⟩

set_option maxRecDepth 100000 in
set_option maxHeartbeats 4000000 in
theorem spec_words_put (b o cap : Nat) (verb nm : ByteArray) (ws : List ByteArray) (w : World) (ha : StrsAt w (some ⟨b, o, none⟩) (verb :: nm :: ws)) (hbl : b < w.heap.size) (hcap : (verb :: nm :: ws).length ≤ cap) (hs : ∀ x ∈ verb :: nm :: ws, x.size ≤ 1048576) (hm : (verb :: nm :: ws).length ≤ 2000000) (hv : verb.toList = [112, 117, 116]) :
    Calls Tryz.prog 38 #[.slice (some ⟨b, o, none⟩) (verb :: nm :: ws).length cap] w fun e w' => ∃ v, e = .returned v ∧ WordsRd w verb nm ws v w' := by
  have HW : Hid (WdS w (some ⟨b, o, none⟩) (verb :: nm :: ws) (doneL 0 nm 0 (.slice none 0 0) (.slice none 0 0) chg0) (((w.alloc (.cells zeros9.toArray 34)).alloc (.cells zeros9.toArray 34)).setCells (w.heap.size + 1) 0 (doneL 0 nm 0 (.slice none 0 0) (.slice none 0 0) chg0))) := wds_start w b o _ _ ha hbl rfl
  have hth : ((w.alloc (.cells zeros9.toArray 34)).alloc (.cells zeros9.toArray 34)).there (w.heap.size + 1) 0 19 := by
    have h := there_box (w.alloc (.cells zeros9.toArray 34)) zeros9 34 19 rfl
    rwa [size_alloc] at h
  have h1 := (by rcases ha with h | ⟨b', o', e, _, hr⟩; (cases h); (cases e; exact hr 1 nm rfl) : w.cell? ⟨b, o + 1, none⟩ = some (.string nm))
  have HS : Hid ((∀ x ∈ verb :: nm :: ws, x.size ≤ 1048576) ∧ (verb :: nm :: ws).length ≤ 2000000) := ⟨hs, hm⟩
  have v0 : (verb.toList == [116, 97, 98, 108, 101]) = false := by rw [hv]; rfl
  have v1 : (verb.toList == [112, 117, 116]) = true := by rw [hv]; rfl
  have v2 : (verb.toList == [115, 101, 116]) = false := by rw [hv]; rfl
  have v3 : (verb.toList == [111, 102, 102]) = false := by rw [hv]; rfl
  have v4 : (verb.toList == [97, 100, 100]) = false := by rw [hv]; rfl
  have v5 : (verb.toList == [100, 114, 111, 112]) = false := by rw [hv]; rfl
  have v6 : (verb.toList == [110, 97, 109, 101]) = false := by rw [hv]; rfl
  have v7 : (verb.toList == [107, 105, 110, 100]) = false := by rw [hv]; rfl
  have v8 : (verb.toList == [108, 105, 110, 107]) = false := by rw [hv]; rfl
  clear ha hs
  cases ws with
  | nil =>
    simp only [List.length_cons, List.length_nil] at hm hcap ⊢
    by_cases hc2 : cap = 2
    · subst hc2
      go_enter Tryz.func38, Tryz.ntmps38
      go_wp2_with (refine st_act rfl _ _ rfl _ rfl (doneL 0 nm 0 (.slice none 0 0) (.slice none 0 0) chg0) rfl rfl hth (by simp [Value.oneCell']) ?_; generalize ((w.alloc (.cells zeros9.toArray 34)).alloc (.cells zeros9.toArray 34)).setCells (w.heap.size + 1) 0 (doneL 0 nm 0 (.slice none 0 0) (.slice none 0 0) chg0) = W1 at *; have h0 := HW.out.word (i := 0) rfl; rw [Nat.add_zero] at h0; have hc0 := HW.out.cell (i := 0) rfl; have hf0 := HW.out.free (i := 0) (by omega))
      refine (spec_read_sets _ _ ([] : List ByteArray) _ (Or.inl rfl) (fun y hy => by simp at hy) (by simp)).mono ?_
      rintro e w3 ⟨u, M, rfl, hO, hsm, hl6, hrel⟩
      obtain ⟨ad, cp, rfl, _⟩ := own_sets9 hO.1
      have HW3 : Hid (WdS w (some ⟨b, o, none⟩) (verb :: nm :: ([] : List ByteArray)) (doneL 3 nm 0 (.slice none 0 0) (.slice none 0 0) chg0) w3) := (HW.out.set hbl 0 (.int .i64 3) _ rfl (by omega) rfl).next hO.2
      have HO : Hid (w3.ownsRow W1.heap.size 102 4 (.slice ad M.length cp) M.length (M.flatMap ASet.cells) ∧ w.heap.size + 1 < W1.heap.size) := ⟨by have h := hO.1; simpa using h, HW.out.lt⟩
      have HM : Hid ((∀ c ∈ M, c.nm.size ≤ 1048576 ∧ c.s.size ≤ 1048576) ∧ M.length ≤ 6 ∧ ∀ L : List ASet, (∀ c ∈ L, c.ok = true) → L.length ≤ 5 → (([] : List ByteArray)).map (·.data.toList) = L.map setW → M = L) := ⟨hsm, hl6, hrel⟩
      have hc3 := HW3.out.cell (i := 3) rfl
      have hf3 := HW3.out.free (i := 3) (by omega)
      have h3 := HW3.out.word (i := 0) rfl
      rw [Nat.add_zero] at h3
      have HX : Hid (WdS w (some ⟨b, o, none⟩) (verb :: nm :: ([] : List ByteArray)) (doneL 3 nm 0 (.slice ad M.length cp) (.slice none 0 0) chg0) (w3.setCell ⟨w.heap.size + 1, 3, none⟩ (.slice ad M.length cp))) := HW3.out.set hbl 3 _ _ rfl (by omega) rfl
      clear hO hsm hl6 hrel h0 hc0 hf0 HW HW3
      go_wp2_with (first | (refine ld_act rfl _ rfl (w.heap.size + 1) rfl (doneL 3 nm 0 (.slice ad M.length cp) (.slice none 0 0) chg0) HX.out.ra rfl ?_) | (refine st_act rfl _ _ rfl w.heap.size rfl (doneL 3 nm 0 (.slice ad M.length cp) (.slice none 0 0) chg0) rfl rfl HX.out.rb (by simp [Value.oneCell']) ?_))
      exact words_ret (x := ⟨3, nm, 0, M, [], chg0, lnk0⟩) HX.out HO.out.2 (own_apart9 HO.out.1 HO.out.2 3 [.slice ad M.length cp]) (own_none9 _ _ _ _) ⟨fit0 (HS.out.1 nm (by simp)), setm_fit HM.out.1 HM.out.2.1, ⟨fun _ h => by simp at h, Nat.zero_le _⟩, nochg, nolnk⟩ (rd_put2 HM.out.2.2 hv) rfl rfl
    · have hc2' : ¬ (cap : Int) = 2 := by omega
      have hl2 : (2 : Int) ≤ cap := by omega
      go_enter Tryz.func38, Tryz.ntmps38
      go_wp2_with (refine st_act rfl _ _ rfl _ rfl (doneL 0 nm 0 (.slice none 0 0) (.slice none 0 0) chg0) rfl rfl hth (by simp [Value.oneCell']) ?_; generalize ((w.alloc (.cells zeros9.toArray 34)).alloc (.cells zeros9.toArray 34)).setCells (w.heap.size + 1) 0 (doneL 0 nm 0 (.slice none 0 0) (.slice none 0 0) chg0) = W1 at *; have h0 := HW.out.word (i := 0) rfl; rw [Nat.add_zero] at h0; have hc0 := HW.out.cell (i := 0) rfl; have hf0 := HW.out.free (i := 0) (by omega))
      refine (spec_read_sets _ _ ([] : List ByteArray) _ (Or.inl rfl) (fun y hy => by simp at hy) (by simp)).mono ?_
      rintro e w3 ⟨u, M, rfl, hO, hsm, hl6, hrel⟩
      obtain ⟨ad, cp, rfl, _⟩ := own_sets9 hO.1
      have HW3 : Hid (WdS w (some ⟨b, o, none⟩) (verb :: nm :: ([] : List ByteArray)) (doneL 3 nm 0 (.slice none 0 0) (.slice none 0 0) chg0) w3) := (HW.out.set hbl 0 (.int .i64 3) _ rfl (by omega) rfl).next hO.2
      have HO : Hid (w3.ownsRow W1.heap.size 102 4 (.slice ad M.length cp) M.length (M.flatMap ASet.cells) ∧ w.heap.size + 1 < W1.heap.size) := ⟨by have h := hO.1; simpa using h, HW.out.lt⟩
      have HM : Hid ((∀ c ∈ M, c.nm.size ≤ 1048576 ∧ c.s.size ≤ 1048576) ∧ M.length ≤ 6 ∧ ∀ L : List ASet, (∀ c ∈ L, c.ok = true) → L.length ≤ 5 → (([] : List ByteArray)).map (·.data.toList) = L.map setW → M = L) := ⟨hsm, hl6, hrel⟩
      have hc3 := HW3.out.cell (i := 3) rfl
      have hf3 := HW3.out.free (i := 3) (by omega)
      have h3 := HW3.out.word (i := 0) rfl
      rw [Nat.add_zero] at h3
      have HX : Hid (WdS w (some ⟨b, o, none⟩) (verb :: nm :: ([] : List ByteArray)) (doneL 3 nm 0 (.slice ad M.length cp) (.slice none 0 0) chg0) (w3.setCell ⟨w.heap.size + 1, 3, none⟩ (.slice ad M.length cp))) := HW3.out.set hbl 3 _ _ rfl (by omega) rfl
      clear hO hsm hl6 hrel h0 hc0 hf0 HW HW3
      go_wp2_with (first | (refine ld_act rfl _ rfl (w.heap.size + 1) rfl (doneL 3 nm 0 (.slice ad M.length cp) (.slice none 0 0) chg0) HX.out.ra rfl ?_) | (refine st_act rfl _ _ rfl w.heap.size rfl (doneL 3 nm 0 (.slice ad M.length cp) (.slice none 0 0) chg0) rfl rfl HX.out.rb (by simp [Value.oneCell']) ?_))
      exact words_ret (x := ⟨3, nm, 0, M, [], chg0, lnk0⟩) HX.out HO.out.2 (own_apart9 HO.out.1 HO.out.2 3 [.slice ad M.length cp]) (own_none9 _ _ _ _) ⟨fit0 (HS.out.1 nm (by simp)), setm_fit HM.out.1 HM.out.2.1, ⟨fun _ h => by simp at h, Nat.zero_le _⟩, nochg, nolnk⟩ (rd_put2 HM.out.2.2 hv) rfl rfl
  | cons x r =>
    simp only [List.length_cons] at hm hcap ⊢
    have hc2 : ¬ cap = 2 := by omega
    have i0 : (0 : Int) < (r.length : Int) + 1 + 1 + 1 := by omega
    have i1 : (1 : Int) < (r.length : Int) + 1 + 1 + 1 := by omega
    have i2 : (2 : Int) ≤ (r.length : Int) + 1 + 1 + 1 := by omega
    have i3 : ¬ ((r.length : Int) + 1 + 1 + 1 < 3) := by omega
    go_enter Tryz.func38, Tryz.ntmps38
    go_wp2_with (refine st_act rfl _ _ rfl _ rfl (doneL 0 nm 0 (.slice none 0 0) (.slice none 0 0) chg0) rfl rfl hth (by simp [Value.oneCell']) ?_; generalize ((w.alloc (.cells zeros9.toArray 34)).alloc (.cells zeros9.toArray 34)).setCells (w.heap.size + 1) 0 (doneL 0 nm 0 (.slice none 0 0) (.slice none 0 0) chg0) = W1 at *; have h0 := HW.out.word (i := 0) rfl; rw [Nat.add_zero] at h0; have hc0 := HW.out.cell (i := 0) rfl; have hf0 := HW.out.free (i := 0) (by omega))
    refine (spec_read_sets _ _ (x :: r) _ (HW.out.set hbl 0 (.int .i64 3) _ rfl (by omega) rfl).tail2 (fun y hy => HS.out.1 y (by simp only [List.mem_cons] at hy ⊢; exact Or.inr (Or.inr hy))) (by simp only [List.length_cons]; omega)).mono ?_
    rintro e w3 ⟨u, M, rfl, hO, hsm, hl6, hrel⟩
    obtain ⟨ad, cp, rfl, _⟩ := own_sets9 hO.1
    have HW3 : Hid (WdS w (some ⟨b, o, none⟩) (verb :: nm :: (x :: r)) (doneL 3 nm 0 (.slice none 0 0) (.slice none 0 0) chg0) w3) := (HW.out.set hbl 0 (.int .i64 3) _ rfl (by omega) rfl).next hO.2
    have HO : Hid (w3.ownsRow W1.heap.size 102 4 (.slice ad M.length cp) M.length (M.flatMap ASet.cells) ∧ w.heap.size + 1 < W1.heap.size) := ⟨by have h := hO.1; simpa using h, HW.out.lt⟩
    have HM : Hid ((∀ c ∈ M, c.nm.size ≤ 1048576 ∧ c.s.size ≤ 1048576) ∧ M.length ≤ 6 ∧ ∀ L : List ASet, (∀ c ∈ L, c.ok = true) → L.length ≤ 5 → ((x :: r)).map (·.data.toList) = L.map setW → M = L) := ⟨hsm, hl6, hrel⟩
    have hc3 := HW3.out.cell (i := 3) rfl
    have hf3 := HW3.out.free (i := 3) (by omega)
    have h3 := HW3.out.word (i := 0) rfl
    rw [Nat.add_zero] at h3
    have HX : Hid (WdS w (some ⟨b, o, none⟩) (verb :: nm :: (x :: r)) (doneL 3 nm 0 (.slice ad M.length cp) (.slice none 0 0) chg0) (w3.setCell ⟨w.heap.size + 1, 3, none⟩ (.slice ad M.length cp))) := HW3.out.set hbl 3 _ _ rfl (by omega) rfl
    clear hO hsm hl6 hrel h0 hc0 hf0 HW HW3
    go_wp2_with (first | (refine ld_act rfl _ rfl (w.heap.size + 1) rfl (doneL 3 nm 0 (.slice ad M.length cp) (.slice none 0 0) chg0) HX.out.ra rfl ?_) | (refine st_act rfl _ _ rfl w.heap.size rfl (doneL 3 nm 0 (.slice ad M.length cp) (.slice none 0 0) chg0) rfl rfl HX.out.rb (by simp [Value.oneCell']) ?_))
    exact words_ret (x := ⟨3, nm, 0, M, [], chg0, lnk0⟩) HX.out HO.out.2 (own_apart9 HO.out.1 HO.out.2 3 [.slice ad M.length cp]) (own_none9 _ _ _ _) ⟨fit0 (HS.out.1 nm (by simp)), setm_fit HM.out.1 HM.out.2.1, ⟨fun _ h => by simp at h, Nat.zero_le _⟩, nochg, nolnk⟩ (rd_put2 HM.out.2.2 hv) rfl rfl

end Go.Proofs.YtpcfebekkgfpjaaGreatDoor
