/- The contract of spec.l5Words at a table, over the seat's translation. -/
import Derived.Test.YtpcfebekkgfpjaaGreatDoorArS12
namespace Go.Proofs.YtpcfebekkgfpjaaGreatDoor
open Go.RowKit

/-- Columns read so far. -/
def TabI (w : World) (b o C : Nat) (verb nm : ByteArray) (ws : List ByteArray) (i : Nat) (M : List ACol) (u : Value) (W : World) : Prop :=
  WdS w (some ⟨b, o, none⟩) (verb :: nm :: ws) (doneL 1 nm 0 (.slice none 0 0) u chg0) W ∧ W.ownsRow C 28 7 u M.length (M.flatMap ACol.cells) ∧ RdL (ws.take (i - 2)) M ∧ C ≤ W.heap.size
/-- The columns' list, a word, and what else lies there while one more is read. -/
abbrev TabV (w : World) (b o i : Nat) (u : Value) (x : ByteArray) (verb nm : ByteArray) (ws : List ByteArray) (W : World) : Prop :=
  W.cell? ⟨w.heap.size + 1, 4, none⟩ = some u ∧ W.frozen? ⟨w.heap.size + 1, 4, none⟩ = false ∧ W.cell? ⟨b, o + i, none⟩ = some (.string x) ∧ Hid (WdS w (some ⟨b, o, none⟩) (verb :: nm :: ws) (doneL 1 nm 0 (.slice none 0 0) u chg0) W ∧ b < w.heap.size)
theorem tabv_of {w : World} {b o i : Nat} {u : Value} {x verb nm : ByteArray} {ws : List ByteArray} {W : World} (h1 : WdS w (some ⟨b, o, none⟩) (verb :: nm :: ws) (doneL 1 nm 0 (.slice none 0 0) u chg0) W) (h5 : b < w.heap.size) (hx : (verb :: nm :: ws)[i]? = some x) : TabV w b o i u x verb nm ws W :=
  ⟨h1.cell (i := 4) rfl, h1.free (by omega), h1.word hx, h1, h5⟩
theorem tabv_next {w : World} {b o i : Nat} {u : Value} {x verb nm : ByteArray} {ws : List ByteArray} {W W' : World} (hx : (verb :: nm :: ws)[i]? = some x) (h : TabV w b o i u x verb nm ws W) (hb : Below W.heap.size W W') : TabV w b o i u x verb nm ws W' := by
  obtain ⟨_, _, _, h1, h5⟩ := h
  exact tabv_of (h1.next hb) h5 hx
theorem wds_blocks {w : World} {b o : Nat} {ws : List ByteArray} {cs : List Value} {W W' : World} (h : WdS w (some ⟨b, o, none⟩) ws cs W) (hbl : b < w.heap.size) (hk : ∀ k, k < w.heap.size + 2 → W'.heap[k]? = W.heap[k]?) (hz : W.heap.size ≤ W'.heap.size) (hb : Below w.heap.size w W') : WdS w (some ⟨b, o, none⟩) ws cs W' := by
  have hc : ∀ k j, k < w.heap.size + 2 → W'.cell? ⟨k, j, none⟩ = W.cell? ⟨k, j, none⟩ := fun k j h => World.cell?_of_block (w := W) (a := ⟨k, j, none⟩) (hk k h)
  have hf : ∀ k j, k < w.heap.size + 2 → W'.frozen? ⟨k, j, none⟩ = W.frozen? ⟨k, j, none⟩ := fun k j h => World.frozen?_of_block (w := W) (a := ⟨k, j, none⟩) (hk k h)
  refine ⟨fun j v hv => by rw [hc _ _ (by omega)]; exact h.ra j v hv, fun j hj => by rw [hc _ _ (by omega), hf _ _ (by omega)]; exact h.th j hj, fun j hj => by rw [hc _ _ (by omega), hf _ _ (by omega)]; exact h.rb j hj, Nat.lt_of_lt_of_le h.lt hz, ?_, hb⟩
  rcases h.st with h | ⟨b', q, e, hl, hr⟩
  · exact Or.inl h
  · cases e
    exact Or.inr ⟨b, o, rfl, Nat.lt_of_lt_of_le hl hz, fun i x hx => by rw [hc _ _ (by omega)]; exact hr i x hx⟩
theorem tabv_grown {w : World} {b o i : Nat} {u : Value} {x verb nm : ByteArray} {ws : List ByteArray} {W W' : World} (hx : (verb :: nm :: ws)[i]? = some x) (h : TabV w b o i u x verb nm ws W) (hg : W.grownBy W' u.ownBlock) (hu : ∀ k, u.ownBlock = some k → w.heap.size + 2 ≤ k) : TabV w b o i u x verb nm ws W' := by
  obtain ⟨_, _, _, h1, h5⟩ := h
  refine tabv_of (wds_blocks h1 h5 (fun k hk => hg.block k (Nat.lt_of_lt_of_le hk h1.lt) (fun e => ?_)) hg.size (h1.bl.grown hg h1.bl.size (fun k hk => by have := hu k hk; omega))) h5 hx
  have := hu k e.symm
  omega
/-- What lies there whatever the columns' list is. -/
abbrev TabS (w : World) (b o i : Nat) (x verb nm : ByteArray) (ws : List ByteArray) (W : World) : Prop :=
  W.frozen? ⟨w.heap.size + 1, 4, none⟩ = false ∧ W.cell? ⟨b, o + i, none⟩ = some (.string x) ∧ Hid ((b < w.heap.size ∧ (verb :: nm :: ws)[i]? = some x) ∧ ∃ cs, cs.length = 19 ∧ WdS w (some ⟨b, o, none⟩) (verb :: nm :: ws) cs W)
theorem tabs_of {w : World} {b o i : Nat} {x verb nm : ByteArray} {ws : List ByteArray} {cs : List Value} {W : World} (h : WdS w (some ⟨b, o, none⟩) (verb :: nm :: ws) cs W) (hl : cs.length = 19) (hb : b < w.heap.size) (hx : (verb :: nm :: ws)[i]? = some x) : TabS w b o i x verb nm ws W := ⟨h.free (by omega), h.word hx, ⟨hb, hx⟩, cs, hl, h⟩
theorem tabs_next {w : World} {b o i : Nat} {x verb nm : ByteArray} {ws : List ByteArray} {W W' : World} (h : TabS w b o i x verb nm ws W) (hb : Below W.heap.size W W') : TabS w b o i x verb nm ws W' := by
  obtain ⟨_, _, ⟨h1, h2⟩, cs, hl, h3⟩ := h
  exact tabs_of (h3.next hb) hl h1 h2
theorem tabs_set {w : World} {b o i : Nat} {x verb nm : ByteArray} {ws : List ByteArray} {W : World} (h : TabS w b o i x verb nm ws W) (v : Value) : TabS w b o i x verb nm ws (W.setCell ⟨w.heap.size + 1, 4, none⟩ v) := by
  obtain ⟨_, _, ⟨h1, h2⟩, cs, hl, h3⟩ := h
  exact tabs_of (h3.set h1 4 v _ rfl (by omega) hl) (by simpa using hl) h1 h2
theorem tabi_next {w : World} {b o i : Nat} {verb nm x : ByteArray} {ws : List ByteArray} {M : List ACol} {u v : Value} {c : ACol} {W : World} (hbl : b < w.heap.size) (hi : 2 ≤ i) (hx : (verb :: nm :: ws)[i]? = some x) (h1 : WdS w (some ⟨b, o, none⟩) (verb :: nm :: ws) (doneL 1 nm 0 (.slice none 0 0) u chg0) W) (h2 : W.ownsRow (w.heap.size + 2) 28 7 v (M.length + 1) (M.flatMap ACol.cells ++ c.cells)) (h3 : w.heap.size + 2 ≤ W.heap.size) (h4 : RdL (ws.take (i - 2)) M) (h5 : ColRd x.data.toList c) :
    TabI w b o (w.heap.size + 2) verb nm ws (i + 1) (M ++ [c]) v (W.setCell ⟨w.heap.size + 1, 4, none⟩ v) := by
  refine ⟨h1.set hbl 4 v _ rfl (by omega) rfl, ?_, ?_, by simpa using h3⟩
  · have h : (W.setCell ⟨w.heap.size + 1, 4, none⟩ v).ownsRow (w.heap.size + 2) 28 7 v (M.length + 1) (M.flatMap ACol.cells ++ c.cells) := own_apart9 h2 (by omega : w.heap.size + 1 < w.heap.size + 2) 4 [v]
    simpa using h
  · have hx2 : ws[i - 2]? = some x := by
      obtain ⟨k, rfl⟩ : ∃ k, i = k + 2 := ⟨i - 2, by omega⟩
      simpa using hx
    have := h4.snoc hx2 h5
    rwa [show i - 2 + 1 = i + 1 - 2 by omega] at this
theorem rd_table2 {verb nm : ByteArray} {ws : List ByteArray} {M : List ACol} {k : Nat} (hr : RdL (ws.take k) M) (hk : ws.length ≤ k ∨ 6 ≤ k) (hv : verb.toList = [116, 97, 98, 108, 101]) : ActRd (verb.data.toList :: nm.data.toList :: ws.map (·.data.toList)) ⟨1, nm, 0, [], M, chg0, lnk0⟩ := fun y hy e => by
  rw [ByteArray.toList_eq] at hv
  have hfew := deed_few hy
  rcases act_inv hy e with h | h | h | h | h | h | h | h | h
  case inl =>
    obtain ⟨_, h2, h3, h4, h5⟩ := h
    rw [h2] at hfew ⊢
    have hl : ws.length = y.cols.length := by have := congrArg List.length h4; simpa using this
    have h6 : y.cols.length ≤ 5 := hfew.2
    rw [List.take_of_length_le (by omega)] at hr
    rw [bytes_same h3, cols_bytes h4 h5 hr]
  all_goals exact absurd h.1 (by rw [hv]; decide)
theorem rdm_fit {ws : List ByteArray} {M : List ACol} {k : Nat} (hs : ∀ x ∈ ws, x.size ≤ 1048576) (h : RdL (ws.take k) M) (h6 : M.length ≤ 6) : (∀ c ∈ M, c.fit) ∧ M.length ≤ maxLen := by
  refine ⟨fun c hc => ?_, by unfold maxLen; omega⟩
  obtain ⟨i, hi⟩ := List.getElem?_of_mem hc
  have hl : i < (ws.take k).length := by rw [← h.1]; exact (List.getElem?_eq_some_iff.1 hi).1
  have h1 := (h.2 i _ c (List.getElem?_eq_getElem hl) hi).1
  have h2 := hs _ (List.mem_of_mem_take (List.getElem_mem hl))
  simp at h1 h2
  unfold ACol.fit maxLen
  omega
theorem own_slice9 {W : World} {base : Nat} {e : TypeId} {size : Nat} {v : Value} {n : Nat} {xs : List Value} (h : W.ownsRow base e size v n xs) : ∃ a n c, v = .slice a n c := by
  rcases h.2 with ⟨h2, _⟩ | ⟨g, cap, cur, a, _⟩
  · exact ⟨_, _, _, h2⟩
  · exact ⟨_, _, _, a⟩

set_option maxRecDepth 100000 in
set_option maxHeartbeats 4000000 in
theorem spec_words_table (b o cap : Nat) (verb nm : ByteArray) (ws : List ByteArray) (w : World) (ha : StrsAt w (some ⟨b, o, none⟩) (verb :: nm :: ws)) (hbl : b < w.heap.size) (_hcap : (verb :: nm :: ws).length ≤ cap) (hs : ∀ x ∈ verb :: nm :: ws, x.size ≤ 1048576) (hm : (verb :: nm :: ws).length ≤ 2000000) (hv : verb.toList = [116, 97, 98, 108, 101]) :
    Calls Tryz.prog 38 #[.slice (some ⟨b, o, none⟩) (verb :: nm :: ws).length cap] w fun e w' => ∃ v, e = .returned v ∧ WordsRd w verb nm ws v w' := by
  have HW : Hid (WdS w (some ⟨b, o, none⟩) (verb :: nm :: ws) (doneL 0 nm 0 (.slice none 0 0) (.slice none 0 0) chg0) (((w.alloc (.cells zeros9.toArray 34)).alloc (.cells zeros9.toArray 34)).setCells (w.heap.size + 1) 0 (doneL 0 nm 0 (.slice none 0 0) (.slice none 0 0) chg0))) := wds_start w b o _ _ ha hbl rfl
  have hth : ((w.alloc (.cells zeros9.toArray 34)).alloc (.cells zeros9.toArray 34)).there (w.heap.size + 1) 0 19 := by
    have h := there_box (w.alloc (.cells zeros9.toArray 34)) zeros9 34 19 rfl
    rwa [size_alloc] at h
  have h1 := (by rcases ha with h | ⟨b', o', e, _, hr⟩; (cases h); (cases e; exact hr 1 nm rfl) : w.cell? ⟨b, o + 1, none⟩ = some (.string nm))
  have HS : Hid ((∀ x ∈ verb :: nm :: ws, x.size ≤ 1048576) ∧ (verb :: nm :: ws).length ≤ 2000000) := ⟨hs, hm⟩
  have v0 : (verb.toList == [116, 97, 98, 108, 101]) = true := by rw [hv]; rfl
  have v1 : (verb.toList == [112, 117, 116]) = false := by rw [hv]; rfl
  have v2 : (verb.toList == [115, 101, 116]) = false := by rw [hv]; rfl
  have v3 : (verb.toList == [111, 102, 102]) = false := by rw [hv]; rfl
  have v4 : (verb.toList == [97, 100, 100]) = false := by rw [hv]; rfl
  have v5 : (verb.toList == [100, 114, 111, 112]) = false := by rw [hv]; rfl
  have v6 : (verb.toList == [110, 97, 109, 101]) = false := by rw [hv]; rfl
  have v7 : (verb.toList == [107, 105, 110, 100]) = false := by rw [hv]; rfl
  have v8 : (verb.toList == [108, 105, 110, 107]) = false := by rw [hv]; rfl
  clear ha hs
  simp only [List.length_cons] at hm ⊢
  have i0 : (0 : Int) < (ws.length : Int) + 1 + 1 := by omega
  have i1 : (1 : Int) < (ws.length : Int) + 1 + 1 := by omega
  go_enter Tryz.func38, Tryz.ntmps38
  go_wp2_with (refine st_act rfl _ _ rfl _ rfl (doneL 0 nm 0 (.slice none 0 0) (.slice none 0 0) chg0) rfl rfl hth (by simp [Value.oneCell']) ?_; generalize ((w.alloc (.cells zeros9.toArray 34)).alloc (.cells zeros9.toArray 34)).setCells (w.heap.size + 1) 0 (doneL 0 nm 0 (.slice none 0 0) (.slice none 0 0) chg0) = W1 at *; have h0 := HW.out.word (i := 0) rfl; rw [Nat.add_zero] at h0; have hc0 := HW.out.cell (i := 0) rfl; have hf0 := HW.out.free (i := 0) (by omega))
  have HL0 : Hid (TabI w b o (w.heap.size + 2) verb nm ws 2 [] (.slice none 0 0) (W1.setCell ⟨w.heap.size + 1, 0, none⟩ (.int .i64 1))) := ⟨HW.out.set hbl 0 (.int .i64 1) _ rfl (by omega) rfl, own_none9 _ _ _ _, ⟨rfl, fun _ _ _ h _ => by simp at h⟩, by have := HW.out.lt; simp; omega⟩
  clear HW h0 hc0 hf0 h1 hth
  generalize W1.setCell ⟨w.heap.size + 1, 0, none⟩ (.int .i64 1) = W2 at *
  go_loopw [4] (fun i0 wr => ∃ (i : Nat) (M : List ACol) (u : Value), i0 = .int .i64 i ∧ 2 ≤ i ∧ i ≤ 8 ∧ i ≤ ws.length + 2 ∧ Hid (TabI w b o (w.heap.size + 2) verb nm ws i M u wr)) (fun i _ => 9 - (intOf i).toNat)
  case atStart => exact ⟨2, [], _, rfl, by omega, by omega, by omega, HL0⟩
  case round =>
    obtain ⟨i, M, u, rfl, hi2, hi8, hil, hH⟩ := hrel
    by_cases hlt : (i : Int) < (ws.length : Int) + 1 + 1
    · by_cases hi7 : (i : Int) ≤ 7
      · obtain ⟨x, hx⟩ : ∃ x, (verb :: nm :: ws)[i]? = some x := ⟨_, List.getElem?_eq_getElem (by simp only [List.length_cons]; omega)⟩
        have hxw := hH.out.1.word hx
        have hix : ∀ wx, (Instr.indexAt 50 (.slice (some ⟨b, o, none⟩) (ws.length + 1 + 1) cap) (.int .i64 i)).run Tryz.prog wx = .ok (.pointer (some ⟨b, o + i, none⟩)) wx := fun wx => by
          have h := run_ixk 1 _ _ b o _ cap i wx (by omega : i < ws.length + 1 + 1) Tryz.underlying50 (Tryz.sizeOf9 wx)
          rw [Nat.mul_one] at h
          exact h
        obtain ⟨ad, un, uc, rfl⟩ := own_slice9 hH.out.2.1
        have hc4 := hH.out.1.cell (i := 4) rfl
        have hf4 := hH.out.1.free (i := 4) (by omega)
        have hc0 := hH.out.1.word (i := 0) rfl
        have hT : TabV w b o i (.slice ad un uc) x verb nm ws wr := tabv_of hH.out.1 hbl hx
        have HO : Hid (wr.ownsRow (w.heap.size + 2) 28 7 (.slice ad un uc) M.length (M.flatMap ACol.cells) ∧ w.heap.size + 2 ≤ wr.heap.size) := ⟨hH.out.2.1, hH.out.2.2.2⟩
        have hxs : x.size ≤ 1048576 := HS.out.1 x (List.mem_of_getElem? hx)
        have HR : Hid (RdL (ws.take (i - 2)) M) := hH.out.2.2.1
        have hML : M.length ≤ 6 := by
          have := HR.out.1
          rw [List.length_take] at this
          omega
        obtain ⟨n0, hi, hz, hsz, hby⟩ := Tryz.infoK
        have hby6 : (M.length + 1) * n0.bytes ≤ 140737488355328 := by
          have : (M.length + 1) * n0.bytes ≤ 7 * 128 := Nat.mul_le_mul (by omega) hby
          omega
        have hmx : M.length + 1 ≤ maxLen := by unfold maxLen; omega
        clear hxw hc4 hf4 hc0 hH
        go_wp2_with fail
        have hS0 : TabS w b o i x verb nm ws wr := tabs_of hT.2.2.2.out.1 rfl hbl hx
        have HT : Hid (TabV w b o i (.slice ad un uc) x verb nm ws wr) := hT
        have hcz : wr.drew.cell? ⟨w.heap.size + 1, 4, none⟩ = some (.slice ad un uc) := hT.1
        clear hT
        refine wp_region_held_drew (S := fun W => TabS w b o i x verb nm ws W) (by kernel_rfl) (tabs_next hS0 (Below.refl _ _).drew) (fun h7 => ?_)
        refine wpAnyH_take (i := 0) (v := ?_) rfl (by kernel_rfl) (by kernel_rfl) (by kernel_rfl) (fun _ _ _ h => h) (Or.inl ⟨by rfl, ?_⟩) h7 ?_
        rotate_left
        · intro w0 hSw
          obtain ⟨hs1, hs2, _⟩ := hSw
          go_simp
          try with_reducible rfl
        try simp only [Act.put, List.setIfInBounds_toArray]
        refine wpAnyH_take (i := 2) (v := ?_) rfl (by kernel_rfl) (by kernel_rfl) (by kernel_rfl) (fun _ _ _ h => h) (Or.inl ⟨by rfl, ?_⟩) h7 ?_
        rotate_left
        · intro w0 hSw
          obtain ⟨hs1, hs2, _⟩ := hSw
          go_simp
          try with_reducible rfl
        try simp only [Act.put]
        refine wpAnyH_take (i := 3) (v := ?_) rfl (by kernel_rfl) (by kernel_rfl) (by kernel_rfl) (fun _ _ _ h => h) (Or.inl ⟨by rfl, ?_⟩) h7 ?_
        rotate_left
        · intro w0 hSw
          obtain ⟨hs1, hs2, _⟩ := hSw
          go_simp
          try with_reducible rfl
        try simp only [Act.put]
        refine wpAnyH_take (i := 4) (v := ?_) rfl (by kernel_rfl) (by kernel_rfl) (by kernel_rfl) (fun _ _ _ h => h) (Or.inl ⟨by rfl, ?_⟩) h7 ?_
        rotate_left
        · intro w0 hSw
          obtain ⟨hs1, hs2, _⟩ := hSw
          go_simp
          try with_reducible rfl
        try simp only [Act.put]
        refine wpAnyH_take (i := 5) (v := ?_) rfl (by kernel_rfl) (by kernel_rfl) (by kernel_rfl) (fun _ _ _ h => h) (Or.inl ⟨by rfl, ?_⟩) h7 ?_
        rotate_left
        · intro w0 hSw
          obtain ⟨hs1, hs2, _⟩ := hSw
          go_simp
          try with_reducible rfl
        try simp only [Act.put]
        refine wpAnyH_ready (rs := [1, 6]) (by kernel_rfl) (by simp) ?_
        refine AllReadyH.cons rfl (fun K hK => ?_) (AllReadyH.cons rfl (fun K hK => ?_) AllReadyH.nil)
        · go_simp
          refine hK.out _ _ h7 (fun _ => ?_)
          clear hK K
          try simp only [Act.put, List.setIfInBounds_toArray, List.set_cons_zero, List.set_cons_succ]
          refine wpAnyH_ready (rs := [6]) (by kernel_rfl) (by simp) ?_
          refine AllReadyH.cons rfl (fun K hK => ?_) AllReadyH.nil
          go_simp
          refine (spec_read_col x _ hxs).mono ?_
          rintro e w5 ⟨c, rfl, hc, hb⟩
          have HCR : Hid (ColRd x.data.toList c) := hc
          have HO5 : Hid (w5.ownsRow (w.heap.size + 2) 28 7 (.slice ad un uc) M.length (M.flatMap ACol.cells) ∧ w.heap.size + 2 ≤ w5.heap.size) := ⟨own_keep (W := wr.drew) HO.out.1 hb, Nat.le_trans HO.out.2 hb.size⟩
          have hT5 := tabv_next (W := wr.drew) hx (tabv_next hx HT.out (Below.refl _ _).drew) hb
          have HT5 : Hid (TabV w b o i (.slice ad un uc) x verb nm ws w5) := hT5
          have hc45 := hT5.1
          have hc46 : (w5.alloc (.cells #[.string c.nm, .int .i64 c.kd, .bool c.nd, .bool c.oc, .int .i64 c.k, .int .i64 c.n, .string c.s] 28)).cell? ⟨w.heap.size + 1, 4, none⟩ = some (.slice ad un uc) := (tabv_next hx hT5 (alloc_up w5 (.cells #[.string c.nm, .int .i64 c.kd, .bool c.nd, .bool c.oc, .int .i64 c.k, .int .i64 c.n, .string c.s] 28))).1
          have hN : TabS w b o i x verb nm ws w5 := tabs_of hT5.2.2.2.out.1 rfl hbl hx
          clear hb hc hT5 hcz
          refine hK.out _ _ hN (fun _ => ?_)
          clear hK K
          try simp only [Act.put, List.setIfInBounds_toArray, List.set_cons_zero, List.set_cons_succ]
          refine wpAnyH_ready (rs := [7]) (by kernel_rfl) (by simp) ?_
          refine AllReadyH.cons rfl (fun K hK => ?_) AllReadyH.nil
          go_simp
          refine hK.out _ _ (tabs_next hN (alloc_up w5 (.cells #[.string c.nm, .int .i64 c.kd, .bool c.nd, .bool c.oc, .int .i64 c.k, .int .i64 c.n, .string c.s] 28))) (fun _ => ?_)
          clear hK K
          try simp only [Act.put, List.setIfInBounds_toArray, List.set_cons_zero, List.set_cons_succ]
          refine wpAnyH_ready (rs := [8]) (by kernel_rfl) (by simp) ?_
          refine AllReadyH.cons rfl (fun K hK => ?_) AllReadyH.nil
          refine step_app_to (some 33) rfl rfl _ _ 24 rfl (w.heap.size + 2) 28 n0 _ 7 n0.bytes Tryz.underlying24 hi hz hsz rfl rfl (by decide) (.slice ad un uc) M.length (M.flatMap ACol.cells) rfl (own_keep HO5.out.1 (alloc_up w5 (.cells #[.string c.nm, .int .i64 c.kd, .bool c.nd, .bool c.oc, .int .i64 c.k, .int .i64 c.n, .string c.s] 28))) ⟨w5.heap.size, 0, none⟩ 1 1 c.cells rfl rfl (new_row w5 c.cells 28) (by simp [ACol.cells, Value.oneCell']) hmx hby6 (Nat.le_trans HO5.out.2 (alloc_up w5 (.cells #[.string c.nm, .int .i64 c.kd, .bool c.nd, .bool c.oc, .int .i64 c.k, .int .i64 c.n, .string c.s] 28)).size) ?_
          intro v7 w7 hown7 hg7 hn7
          try simp only [Act.put, List.setIfInBounds_toArray, List.set_cons_zero, List.set_cons_succ]
          obtain ⟨ad7, un7, uc7, rfl⟩ := own_slice9 hown7
          have HT7 : Hid (TabV w b o i (.slice ad un uc) x verb nm ws w7) := tabv_grown hx (tabv_next hx HT5.out (alloc_up w5 (.cells #[.string c.nm, .int .i64 c.kd, .bool c.nd, .bool c.oc, .int .i64 c.k, .int .i64 c.n, .string c.s] 28))) hg7 (fun k hk => (World.ownsRow.lt HO5.out.1 k hk).1)
          have HO7 : Hid (w7.ownsRow (w.heap.size + 2) 28 7 (.slice ad7 un7 uc7) (M.length + 1) (M.flatMap ACol.cells ++ c.cells) ∧ w.heap.size + 2 ≤ w7.heap.size) := ⟨hown7, Nat.le_trans (Nat.le_trans HO5.out.2 (alloc_up w5 (.cells #[.string c.nm, .int .i64 c.kd, .bool c.nd, .bool c.oc, .int .i64 c.k, .int .i64 c.n, .string c.s] 28)).size) hg7.size⟩
          have hS7 : TabS w b o i x verb nm ws w7 := tabs_of HT7.out.2.2.2.out.1 rfl hbl hx
          clear hown7 hg7 hn7 hc45 hc46 hN HT5 HO5
          refine hK.out _ _ hS7 (fun _ => ?_)
          clear hK K
          try simp only [Act.put, List.setIfInBounds_toArray, List.set_cons_zero, List.set_cons_succ]
          refine wpAnyH_ready (rs := [9]) (by kernel_rfl) (by simp) ?_
          refine AllReadyH.cons rfl (fun K hK => ?_) AllReadyH.nil
          go_simp
          refine hK.out _ _ hS7 (fun _ => ?_)
          clear hK K
          try simp only [Act.put, List.setIfInBounds_toArray, List.set_cons_zero, List.set_cons_succ]
          have hc47 := HT7.out.1
          have hf47 := HT7.out.2.1
          refine wpAnyH_ready (rs := [10]) (by kernel_rfl) (by simp) ?_
          refine AllReadyH.cons rfl (fun K hK => ?_) AllReadyH.nil
          go_simp
          refine hK.out _ _ (tabs_set hS7 _) (fun _ => ?_)
          clear hK K
          try simp only [Act.put, List.setIfInBounds_toArray, List.set_cons_zero, List.set_cons_succ]
          refine wpAnyH_done (by kernel_rfl) ?_ _
          have HF : Hid (TabI w b o (w.heap.size + 2) verb nm ws (i + 1) (M ++ [c]) (.slice ad7 un7 uc7) (w7.setCell ⟨w.heap.size + 1, 4, none⟩ (.slice ad7 un7 uc7))) := tabi_next hbl hi2 hx HT7.out.2.2.2.out.1 HO7.out.1 HO7.out.2 HR.out HCR.out
          clear HO7 HT7 hS7 hc47 hf47 HR HCR hi hz hsz hby hby6 hmx hxs HT HO hS0
          go_wp2_with fail
          go_roundw
          case rel => exact ⟨i + 1, M ++ [c], _, by go_num, by omega, by omega, by omega, HF⟩
          case measure => simp [intOf]; omega
        · go_simp
          refine (spec_read_col x _ hxs).mono ?_
          rintro e w5 ⟨c, rfl, hc, hb⟩
          have HCR : Hid (ColRd x.data.toList c) := hc
          have HO5 : Hid (w5.ownsRow (w.heap.size + 2) 28 7 (.slice ad un uc) M.length (M.flatMap ACol.cells) ∧ w.heap.size + 2 ≤ w5.heap.size) := ⟨own_keep (W := wr.drew) HO.out.1 hb, Nat.le_trans HO.out.2 hb.size⟩
          have hT5 := tabv_next (W := wr.drew) hx (tabv_next hx HT.out (Below.refl _ _).drew) hb
          have HT5 : Hid (TabV w b o i (.slice ad un uc) x verb nm ws w5) := hT5
          have hc45 := hT5.1
          have hc46 : (w5.alloc (.cells #[.string c.nm, .int .i64 c.kd, .bool c.nd, .bool c.oc, .int .i64 c.k, .int .i64 c.n, .string c.s] 28)).cell? ⟨w.heap.size + 1, 4, none⟩ = some (.slice ad un uc) := (tabv_next hx hT5 (alloc_up w5 (.cells #[.string c.nm, .int .i64 c.kd, .bool c.nd, .bool c.oc, .int .i64 c.k, .int .i64 c.n, .string c.s] 28))).1
          have hN : TabS w b o i x verb nm ws w5 := tabs_of hT5.2.2.2.out.1 rfl hbl hx
          clear hb hc hT5 hcz
          refine hK.out _ _ hN (fun _ => ?_)
          clear hK K
          try simp only [Act.put, List.setIfInBounds_toArray, List.set_cons_zero, List.set_cons_succ]
          refine wpAnyH_ready (rs := [1, 7]) (by kernel_rfl) (by simp) ?_
          refine AllReadyH.cons rfl (fun K hK => ?_) (AllReadyH.cons rfl (fun K hK => ?_) AllReadyH.nil)
          · go_simp
            refine hK.out _ _ hN (fun _ => ?_)
            clear hK K
            try simp only [Act.put, List.setIfInBounds_toArray, List.set_cons_zero, List.set_cons_succ]
            refine wpAnyH_ready (rs := [7]) (by kernel_rfl) (by simp) ?_
            refine AllReadyH.cons rfl (fun K hK => ?_) AllReadyH.nil
            go_simp
            refine hK.out _ _ (tabs_next hN (alloc_up w5 (.cells #[.string c.nm, .int .i64 c.kd, .bool c.nd, .bool c.oc, .int .i64 c.k, .int .i64 c.n, .string c.s] 28))) (fun _ => ?_)
            clear hK K
            try simp only [Act.put, List.setIfInBounds_toArray, List.set_cons_zero, List.set_cons_succ]
            refine wpAnyH_ready (rs := [8]) (by kernel_rfl) (by simp) ?_
            refine AllReadyH.cons rfl (fun K hK => ?_) AllReadyH.nil
            refine step_app_to (some 33) rfl rfl _ _ 24 rfl (w.heap.size + 2) 28 n0 _ 7 n0.bytes Tryz.underlying24 hi hz hsz rfl rfl (by decide) (.slice ad un uc) M.length (M.flatMap ACol.cells) rfl (own_keep HO5.out.1 (alloc_up w5 (.cells #[.string c.nm, .int .i64 c.kd, .bool c.nd, .bool c.oc, .int .i64 c.k, .int .i64 c.n, .string c.s] 28))) ⟨w5.heap.size, 0, none⟩ 1 1 c.cells rfl rfl (new_row w5 c.cells 28) (by simp [ACol.cells, Value.oneCell']) hmx hby6 (Nat.le_trans HO5.out.2 (alloc_up w5 (.cells #[.string c.nm, .int .i64 c.kd, .bool c.nd, .bool c.oc, .int .i64 c.k, .int .i64 c.n, .string c.s] 28)).size) ?_
            intro v7 w7 hown7 hg7 hn7
            try simp only [Act.put, List.setIfInBounds_toArray, List.set_cons_zero, List.set_cons_succ]
            obtain ⟨ad7, un7, uc7, rfl⟩ := own_slice9 hown7
            have HT7 : Hid (TabV w b o i (.slice ad un uc) x verb nm ws w7) := tabv_grown hx (tabv_next hx HT5.out (alloc_up w5 (.cells #[.string c.nm, .int .i64 c.kd, .bool c.nd, .bool c.oc, .int .i64 c.k, .int .i64 c.n, .string c.s] 28))) hg7 (fun k hk => (World.ownsRow.lt HO5.out.1 k hk).1)
            have HO7 : Hid (w7.ownsRow (w.heap.size + 2) 28 7 (.slice ad7 un7 uc7) (M.length + 1) (M.flatMap ACol.cells ++ c.cells) ∧ w.heap.size + 2 ≤ w7.heap.size) := ⟨hown7, Nat.le_trans (Nat.le_trans HO5.out.2 (alloc_up w5 (.cells #[.string c.nm, .int .i64 c.kd, .bool c.nd, .bool c.oc, .int .i64 c.k, .int .i64 c.n, .string c.s] 28)).size) hg7.size⟩
            have hS7 : TabS w b o i x verb nm ws w7 := tabs_of HT7.out.2.2.2.out.1 rfl hbl hx
            clear hown7 hg7 hn7 hc45 hc46 hN HT5 HO5
            refine hK.out _ _ hS7 (fun _ => ?_)
            clear hK K
            try simp only [Act.put, List.setIfInBounds_toArray, List.set_cons_zero, List.set_cons_succ]
            refine wpAnyH_ready (rs := [9]) (by kernel_rfl) (by simp) ?_
            refine AllReadyH.cons rfl (fun K hK => ?_) AllReadyH.nil
            go_simp
            refine hK.out _ _ hS7 (fun _ => ?_)
            clear hK K
            try simp only [Act.put, List.setIfInBounds_toArray, List.set_cons_zero, List.set_cons_succ]
            have hc47 := HT7.out.1
            have hf47 := HT7.out.2.1
            refine wpAnyH_ready (rs := [10]) (by kernel_rfl) (by simp) ?_
            refine AllReadyH.cons rfl (fun K hK => ?_) AllReadyH.nil
            go_simp
            refine hK.out _ _ (tabs_set hS7 _) (fun _ => ?_)
            clear hK K
            try simp only [Act.put, List.setIfInBounds_toArray, List.set_cons_zero, List.set_cons_succ]
            refine wpAnyH_done (by kernel_rfl) ?_ _
            have HF : Hid (TabI w b o (w.heap.size + 2) verb nm ws (i + 1) (M ++ [c]) (.slice ad7 un7 uc7) (w7.setCell ⟨w.heap.size + 1, 4, none⟩ (.slice ad7 un7 uc7))) := tabi_next hbl hi2 hx HT7.out.2.2.2.out.1 HO7.out.1 HO7.out.2 HR.out HCR.out
            clear HO7 HT7 hS7 hc47 hf47 HR HCR hi hz hsz hby hby6 hmx hxs HT HO hS0
            go_wp2_with fail
            go_roundw
            case rel => exact ⟨i + 1, M ++ [c], _, by go_num, by omega, by omega, by omega, HF⟩
            case measure => simp [intOf]; omega
          · go_simp
            refine hK.out _ _ (tabs_next hN (alloc_up w5 (.cells #[.string c.nm, .int .i64 c.kd, .bool c.nd, .bool c.oc, .int .i64 c.k, .int .i64 c.n, .string c.s] 28))) (fun _ => ?_)
            clear hK K
            try simp only [Act.put, List.setIfInBounds_toArray, List.set_cons_zero, List.set_cons_succ]
            refine wpAnyH_ready (rs := [1]) (by kernel_rfl) (by simp) ?_
            refine AllReadyH.cons rfl (fun K hK => ?_) AllReadyH.nil
            go_simp
            refine hK.out _ _ (tabs_next hN (alloc_up w5 (.cells #[.string c.nm, .int .i64 c.kd, .bool c.nd, .bool c.oc, .int .i64 c.k, .int .i64 c.n, .string c.s] 28))) (fun _ => ?_)
            clear hK K
            try simp only [Act.put, List.setIfInBounds_toArray, List.set_cons_zero, List.set_cons_succ]
            refine wpAnyH_ready (rs := [8]) (by kernel_rfl) (by simp) ?_
            refine AllReadyH.cons rfl (fun K hK => ?_) AllReadyH.nil
            refine step_app_to (some 33) rfl rfl _ _ 24 rfl (w.heap.size + 2) 28 n0 _ 7 n0.bytes Tryz.underlying24 hi hz hsz rfl rfl (by decide) (.slice ad un uc) M.length (M.flatMap ACol.cells) rfl (own_keep HO5.out.1 (alloc_up w5 (.cells #[.string c.nm, .int .i64 c.kd, .bool c.nd, .bool c.oc, .int .i64 c.k, .int .i64 c.n, .string c.s] 28))) ⟨w5.heap.size, 0, none⟩ 1 1 c.cells rfl rfl (new_row w5 c.cells 28) (by simp [ACol.cells, Value.oneCell']) hmx hby6 (Nat.le_trans HO5.out.2 (alloc_up w5 (.cells #[.string c.nm, .int .i64 c.kd, .bool c.nd, .bool c.oc, .int .i64 c.k, .int .i64 c.n, .string c.s] 28)).size) ?_
            intro v7 w7 hown7 hg7 hn7
            try simp only [Act.put, List.setIfInBounds_toArray, List.set_cons_zero, List.set_cons_succ]
            obtain ⟨ad7, un7, uc7, rfl⟩ := own_slice9 hown7
            have HT7 : Hid (TabV w b o i (.slice ad un uc) x verb nm ws w7) := tabv_grown hx (tabv_next hx HT5.out (alloc_up w5 (.cells #[.string c.nm, .int .i64 c.kd, .bool c.nd, .bool c.oc, .int .i64 c.k, .int .i64 c.n, .string c.s] 28))) hg7 (fun k hk => (World.ownsRow.lt HO5.out.1 k hk).1)
            have HO7 : Hid (w7.ownsRow (w.heap.size + 2) 28 7 (.slice ad7 un7 uc7) (M.length + 1) (M.flatMap ACol.cells ++ c.cells) ∧ w.heap.size + 2 ≤ w7.heap.size) := ⟨hown7, Nat.le_trans (Nat.le_trans HO5.out.2 (alloc_up w5 (.cells #[.string c.nm, .int .i64 c.kd, .bool c.nd, .bool c.oc, .int .i64 c.k, .int .i64 c.n, .string c.s] 28)).size) hg7.size⟩
            have hS7 : TabS w b o i x verb nm ws w7 := tabs_of HT7.out.2.2.2.out.1 rfl hbl hx
            clear hown7 hg7 hn7 hc45 hc46 hN HT5 HO5
            refine hK.out _ _ hS7 (fun _ => ?_)
            clear hK K
            try simp only [Act.put, List.setIfInBounds_toArray, List.set_cons_zero, List.set_cons_succ]
            refine wpAnyH_ready (rs := [9]) (by kernel_rfl) (by simp) ?_
            refine AllReadyH.cons rfl (fun K hK => ?_) AllReadyH.nil
            go_simp
            refine hK.out _ _ hS7 (fun _ => ?_)
            clear hK K
            try simp only [Act.put, List.setIfInBounds_toArray, List.set_cons_zero, List.set_cons_succ]
            have hc47 := HT7.out.1
            have hf47 := HT7.out.2.1
            refine wpAnyH_ready (rs := [10]) (by kernel_rfl) (by simp) ?_
            refine AllReadyH.cons rfl (fun K hK => ?_) AllReadyH.nil
            go_simp
            refine hK.out _ _ (tabs_set hS7 _) (fun _ => ?_)
            clear hK K
            try simp only [Act.put, List.setIfInBounds_toArray, List.set_cons_zero, List.set_cons_succ]
            refine wpAnyH_done (by kernel_rfl) ?_ _
            have HF : Hid (TabI w b o (w.heap.size + 2) verb nm ws (i + 1) (M ++ [c]) (.slice ad7 un7 uc7) (w7.setCell ⟨w.heap.size + 1, 4, none⟩ (.slice ad7 un7 uc7))) := tabi_next hbl hi2 hx HT7.out.2.2.2.out.1 HO7.out.1 HO7.out.2 HR.out HCR.out
            clear HO7 HT7 hS7 hc47 hf47 HR HCR hi hz hsz hby hby6 hmx hxs HT HO hS0
            go_wp2_with fail
            go_roundw
            case rel => exact ⟨i + 1, M ++ [c], _, by go_num, by omega, by omega, by omega, HF⟩
            case measure => simp [intOf]; omega
      · obtain ⟨ad, un, uc, rfl⟩ := own_slice9 hH.out.2.1
        have HX : Hid (WdS w (some ⟨b, o, none⟩) (verb :: nm :: ws) (doneL 1 nm 0 (.slice none 0 0) (.slice ad un uc) chg0) wr) := hH.out.1
        have HE : Hid (wr.ownsRow (w.heap.size + 2) 28 7 (.slice ad un uc) M.length (M.flatMap ACol.cells) ∧ RdL (ws.take (i - 2)) M ∧ M.length ≤ 6 ∧ (ws.length ≤ i - 2 ∨ 6 ≤ i - 2)) := ⟨hH.out.2.1, hH.out.2.2.1, by have := hH.out.2.2.1.1; rw [List.length_take] at this; omega, Or.inr (by omega)⟩
        have hw0 := hH.out.1.word (i := 0) rfl
        rw [Nat.add_zero] at hw0
        clear hH
        by_cases hz : ws.length = 0
        · exact absurd hz (by omega)
        · have hz1 : ¬ ((ws.length : Int) + 1 + 1 < 3) := by omega
          go_wp2_with (first | (refine ld_act rfl _ rfl (w.heap.size + 1) rfl (doneL 1 nm 0 (.slice none 0 0) (.slice ad un uc) chg0) HX.out.ra rfl ?_) | (refine st_act rfl _ _ rfl w.heap.size rfl (doneL 1 nm 0 (.slice none 0 0) (.slice ad un uc) chg0) rfl rfl HX.out.rb (by simp [Value.oneCell']) ?_))
          exact words_ret (x := ⟨1, nm, 0, [], M, chg0, lnk0⟩) HX.out (by omega : w.heap.size + 1 < w.heap.size + 2) (own_none9 _ _ _ _) HE.out.1 ⟨fit0 (HS.out.1 nm (by simp)), ⟨fun _ h => by simp at h, Nat.zero_le _⟩, rdm_fit (fun y hy => HS.out.1 y (by simp [hy])) HE.out.2.1 HE.out.2.2.1, nochg, nolnk⟩ (rd_table2 HE.out.2.1 HE.out.2.2.2 hv) rfl rfl
    · obtain ⟨ad, un, uc, rfl⟩ := own_slice9 hH.out.2.1
      have HX : Hid (WdS w (some ⟨b, o, none⟩) (verb :: nm :: ws) (doneL 1 nm 0 (.slice none 0 0) (.slice ad un uc) chg0) wr) := hH.out.1
      have HE : Hid (wr.ownsRow (w.heap.size + 2) 28 7 (.slice ad un uc) M.length (M.flatMap ACol.cells) ∧ RdL (ws.take (i - 2)) M ∧ M.length ≤ 6 ∧ (ws.length ≤ i - 2 ∨ 6 ≤ i - 2)) := ⟨hH.out.2.1, hH.out.2.2.1, by have := hH.out.2.2.1.1; rw [List.length_take] at this; omega, Or.inl (by omega)⟩
      have hw0 := hH.out.1.word (i := 0) rfl
      rw [Nat.add_zero] at hw0
      clear hH
      by_cases hz : ws.length = 0
      · have hz1 : (ws.length : Int) + 1 + 1 < 3 := by omega
        go_wp2_with (first | (refine ld_act rfl _ rfl (w.heap.size + 1) rfl (doneL 1 nm 0 (.slice none 0 0) (.slice ad un uc) chg0) HX.out.ra rfl ?_) | (refine st_act rfl _ _ rfl w.heap.size rfl (doneL 1 nm 0 (.slice none 0 0) (.slice ad un uc) chg0) rfl rfl HX.out.rb (by simp [Value.oneCell']) ?_))
        exact words_ret (x := ⟨1, nm, 0, [], M, chg0, lnk0⟩) HX.out (by omega : w.heap.size + 1 < w.heap.size + 2) (own_none9 _ _ _ _) HE.out.1 ⟨fit0 (HS.out.1 nm (by simp)), ⟨fun _ h => by simp at h, Nat.zero_le _⟩, rdm_fit (fun y hy => HS.out.1 y (by simp [hy])) HE.out.2.1 HE.out.2.2.1, nochg, nolnk⟩ (rd_table2 HE.out.2.1 HE.out.2.2.2 hv) rfl rfl
      · have hz1 : ¬ ((ws.length : Int) + 1 + 1 < 3) := by omega
        go_wp2_with (first | (refine ld_act rfl _ rfl (w.heap.size + 1) rfl (doneL 1 nm 0 (.slice none 0 0) (.slice ad un uc) chg0) HX.out.ra rfl ?_) | (refine st_act rfl _ _ rfl w.heap.size rfl (doneL 1 nm 0 (.slice none 0 0) (.slice ad un uc) chg0) rfl rfl HX.out.rb (by simp [Value.oneCell']) ?_))
        exact words_ret (x := ⟨1, nm, 0, [], M, chg0, lnk0⟩) HX.out (by omega : w.heap.size + 1 < w.heap.size + 2) (own_none9 _ _ _ _) HE.out.1 ⟨fit0 (HS.out.1 nm (by simp)), ⟨fun _ h => by simp at h, Nat.zero_le _⟩, rdm_fit (fun y hy => HS.out.1 y (by simp [hy])) HE.out.2.1 HE.out.2.2.1, nochg, nolnk⟩ (rd_table2 HE.out.2.1 HE.out.2.2.2 hv) rfl rfl

end Go.Proofs.YtpcfebekkgfpjaaGreatDoor
