/- The contract of spec.l5Words at other words, over the seat's translation. -/
import Derived.Test.YtpcfebekkgfpjaaGreatDoorArS9
namespace Go.Proofs.YtpcfebekkgfpjaaGreatDoor
open Go.RowKit

/-- Words that are too few are nobody's. -/
theorem rd_short {verb nm : ByteArray} {x : AAct} (h1 : verb.toList ≠ [112, 117, 116]) (h2 : verb.toList ≠ [116, 97, 98, 108, 101]) : ActRd (verb.data.toList :: nm.data.toList :: ([] : List ByteArray).map (·.data.toList)) x := fun y hy e => by
  rw [ByteArray.toList_eq] at h1 h2
  rcases act_inv hy e with h | h | h | h | h | h | h | h | h
  · exact absurd h.1 h2
  · have := h.2.2.2.1; simp at this
  · exact absurd h.1 h1
  · have := h.2.2.2.1; simp at this
  · have := h.2.2.2.1; simp at this
  · have := h.2.2.2.1; simp at this
  · have := h.2.2.2; simp at this
  · have := h.2.2.2; simp at this
  · have := h.2.2.2.1; simp at this
theorem rd_set2 {verb nm z : ByteArray} {r : List ByteArray} {M : List ASet} (hM : ∀ L : List ASet, (∀ c ∈ L, c.ok = true) → L.length ≤ 5 → r.map (·.data.toList) = L.map setW → M = L) (hv : verb.toList = [115, 101, 116]) : ActRd (verb.data.toList :: nm.data.toList :: (z :: r).map (·.data.toList)) ⟨4, nm, (numL z.data.toList).1, M, [], chg0, lnk0⟩ := fun y hy e => by
  rw [ByteArray.toList_eq] at hv
  have hfew := deed_few hy
  rcases act_inv hy e with h | h | h | h | h | h | h | h | h
  case inr.inr.inr.inl =>
    obtain ⟨_, h2, h3, h4, h5, h6, h7⟩ := h
    rw [h2] at hfew ⊢
    rw [List.map_cons, List.cons.injEq] at h4
    rw [bytes_same h3, hM _ h5 hfew.1 h4.2, h4.1, numL_itoa (by omega) (by omega)]
  all_goals exact absurd h.1 (by rw [hv]; decide)
theorem rd_off2 {verb nm z : ByteArray} {r : List ByteArray} (hv : verb.toList = [111, 102, 102]) : ActRd (verb.data.toList :: nm.data.toList :: (z :: r).map (·.data.toList)) ⟨5, nm, (numL z.data.toList).1, [], [], chg0, lnk0⟩ := fun y hy e => by
  rw [ByteArray.toList_eq] at hv
  rcases act_inv hy e with h | h | h | h | h | h | h | h | h
  case inr.inr.inr.inr.inl =>
    obtain ⟨_, h2, h3, h4, h6, h7⟩ := h
    obtain ⟨_, h8⟩ := one_of h4
    rw [h2, bytes_same h3, h8, numL_itoa (by omega) (by omega)]
  all_goals exact absurd h.1 (by rw [hv]; decide)

theorem WdS.tail3 {w : World} {b o : Nat} {x y z : ByteArray} {ws : List ByteArray} {cs : List Value} {W : World} (h : WdS w (some ⟨b, o, none⟩) (x :: y :: z :: ws) cs W) : StrsAt W (some ⟨b, o + 3, none⟩) ws := by
  rcases h.st with h | ⟨b', o', e, hl, hr⟩
  · cases h
  · cases e
    refine Or.inr ⟨b, o + 3, rfl, hl, fun i u hu => ?_⟩
    have := hr (i + 3) u (by simpa using hu)
    rwa [show o + (i + 3) = o + 3 + i by omega] at this

set_option maxRecDepth 100000 in
set_option maxHeartbeats 4000000 in
theorem spec_words_off (b o cap : Nat) (verb nm : ByteArray) (ws : List ByteArray) (w : World) (ha : StrsAt w (some ⟨b, o, none⟩) (verb :: nm :: ws)) (hbl : b < w.heap.size) (hcap : (verb :: nm :: ws).length ≤ cap) (hs : ∀ x ∈ verb :: nm :: ws, x.size ≤ 1048576) (hm : (verb :: nm :: ws).length ≤ 2000000) (hv : verb.toList = [111, 102, 102]) :
    Calls Tryz.prog 38 #[.slice (some ⟨b, o, none⟩) (verb :: nm :: ws).length cap] w fun e w' => ∃ v, e = .returned v ∧ WordsRd w verb nm ws v w' := by
  have HW : Hid (WdS w (some ⟨b, o, none⟩) (verb :: nm :: ws) (doneL 0 nm 0 (.slice none 0 0) (.slice none 0 0) chg0) (((w.alloc (.cells zeros9.toArray 34)).alloc (.cells zeros9.toArray 34)).setCells (w.heap.size + 1) 0 (doneL 0 nm 0 (.slice none 0 0) (.slice none 0 0) chg0))) := wds_start w b o _ _ ha hbl rfl
  have hth : ((w.alloc (.cells zeros9.toArray 34)).alloc (.cells zeros9.toArray 34)).there (w.heap.size + 1) 0 19 := by
    have h := there_box (w.alloc (.cells zeros9.toArray 34)) zeros9 34 19 rfl
    rwa [size_alloc] at h
  have h1 := (by rcases ha with h | ⟨b', o', e, _, hr⟩; (cases h); (cases e; exact hr 1 nm rfl) : w.cell? ⟨b, o + 1, none⟩ = some (.string nm))
  have HS : Hid ((∀ x ∈ verb :: nm :: ws, x.size ≤ 1048576) ∧ (verb :: nm :: ws).length ≤ 2000000) := ⟨hs, hm⟩
  have v0 : (verb.toList == [116, 97, 98, 108, 101]) = false := by rw [hv]; rfl
  have v1 : (verb.toList == [112, 117, 116]) = false := by rw [hv]; rfl
  have v2 : (verb.toList == [115, 101, 116]) = false := by rw [hv]; rfl
  have v3 : (verb.toList == [111, 102, 102]) = true := by rw [hv]; rfl
  have v4 : (verb.toList == [97, 100, 100]) = false := by rw [hv]; rfl
  have v5 : (verb.toList == [100, 114, 111, 112]) = false := by rw [hv]; rfl
  have v6 : (verb.toList == [110, 97, 109, 101]) = false := by rw [hv]; rfl
  have v7 : (verb.toList == [107, 105, 110, 100]) = false := by rw [hv]; rfl
  have v8 : (verb.toList == [108, 105, 110, 107]) = false := by rw [hv]; rfl
  clear ha hs
  cases ws with
  | nil =>
    simp only [List.length_cons, List.length_nil] at hm hcap ⊢
    go_enter Tryz.func38, Tryz.ntmps38
    go_wp2_with (first | (refine st_act rfl _ _ rfl _ rfl (doneL 0 nm 0 (.slice none 0 0) (.slice none 0 0) chg0) rfl rfl hth (by simp [Value.oneCell']) ?_; generalize ((w.alloc (.cells zeros9.toArray 34)).alloc (.cells zeros9.toArray 34)).setCells (w.heap.size + 1) 0 (doneL 0 nm 0 (.slice none 0 0) (.slice none 0 0) chg0) = W1 at *; have h0 := HW.out.word (i := 0) rfl; rw [Nat.add_zero] at h0; have HX : Hid (WdS w (some ⟨b, o, none⟩) (verb :: nm :: ([] : List ByteArray)) (doneL 0 nm 0 (.slice none 0 0) (.slice none 0 0) chg0) W1) := HW; have hc0 := HW.out.cell (i := 0) rfl; have hf0 := HW.out.free (i := 0) (by omega)) | (first | (refine ld_act rfl _ rfl (w.heap.size + 1) rfl (doneL 0 nm 0 (.slice none 0 0) (.slice none 0 0) chg0) HX.out.ra rfl ?_) | (refine st_act rfl _ _ rfl w.heap.size rfl (doneL 0 nm 0 (.slice none 0 0) (.slice none 0 0) chg0) rfl rfl HX.out.rb (by simp [Value.oneCell']) ?_)))
    exact words_ret (x := ⟨0, nm, 0, [], [], chg0, lnk0⟩) HX.out (Nat.lt_succ_self _) (own_none9 _ _ _ _) (own_none9 _ _ _ _) ⟨fit0 (HS.out.1 nm (by simp)), ⟨fun _ h => by simp at h, Nat.zero_le _⟩, ⟨fun _ h => by simp at h, Nat.zero_le _⟩, nochg, nolnk⟩ (rd_short (by rw [hv]; decide) (by rw [hv]; decide)) rfl rfl
  | cons z r =>
    simp only [List.length_cons] at hm hcap ⊢
    have i0 : (0 : Int) < (r.length : Int) + 1 + 1 + 1 := by omega
    have i1 : (1 : Int) < (r.length : Int) + 1 + 1 + 1 := by omega
    have i2 : (2 : Int) < (r.length : Int) + 1 + 1 + 1 := by omega
    have i3 : ¬ ((r.length : Int) + 1 + 1 + 1 < 3) := by omega
    have i4 : (3 : Int) ≤ (r.length : Int) + 1 + 1 + 1 := by omega
    have hzs : z.size ≤ maxLen := fit0 (HS.out.1 z (by simp))
    go_enter Tryz.func38, Tryz.ntmps38
    go_wp2_with (refine st_act rfl _ _ rfl _ rfl (doneL 0 nm 0 (.slice none 0 0) (.slice none 0 0) chg0) rfl rfl hth (by simp [Value.oneCell']) ?_; generalize ((w.alloc (.cells zeros9.toArray 34)).alloc (.cells zeros9.toArray 34)).setCells (w.heap.size + 1) 0 (doneL 0 nm 0 (.slice none 0 0) (.slice none 0 0) chg0) = W1 at *; have h0 := HW.out.word (i := 0) rfl; rw [Nat.add_zero] at h0; have hc0 := HW.out.cell (i := 0) rfl; have hf0 := HW.out.free (i := 0) (by omega); have hz := HW.out.word (i := 2) rfl)
    refine (num_any z _ hzs).mono ?_
    rintro e w3 ⟨rfl, hww⟩
    rw [hww]
    clear hww
    have H2 := HW.out.set hbl 0 (.int .i64 5) (doneL 5 nm 0 (.slice none 0 0) (.slice none 0 0) chg0) rfl (by omega) rfl
    have hc2 := H2.cell (i := 2) rfl
    have hf2 := H2.free (i := 2) (by omega)
    have H3 : Hid (WdS w (some ⟨b, o, none⟩) (verb :: nm :: z :: r) (doneL 5 nm (numL z.data.toList).1 (.slice none 0 0) (.slice none 0 0) chg0) ((W1.setCell ⟨w.heap.size + 1, 0, none⟩ (.int .i64 5)).setCell ⟨w.heap.size + 1, 2, none⟩ (.int .i64 (numL z.data.toList).1))) := H2.set hbl 2 _ _ rfl (by omega) rfl
    clear H2
    have HX := H3
    go_wp2_with (first | (refine ld_act rfl _ rfl (w.heap.size + 1) rfl (doneL 5 nm (numL z.data.toList).1 (.slice none 0 0) (.slice none 0 0) chg0) HX.out.ra rfl ?_) | (refine st_act rfl _ _ rfl w.heap.size rfl (doneL 5 nm (numL z.data.toList).1 (.slice none 0 0) (.slice none 0 0) chg0) rfl rfl HX.out.rb (by simp [Value.oneCell']) ?_))
    exact words_ret (x := ⟨5, nm, (numL z.data.toList).1, [], [], chg0, lnk0⟩) HX.out (Nat.lt_succ_self _) (own_none9 _ _ _ _) (own_none9 _ _ _ _) ⟨fit0 (HS.out.1 nm (by simp)), ⟨fun _ h => by simp at h, Nat.zero_le _⟩, ⟨fun _ h => by simp at h, Nat.zero_le _⟩, nochg, nolnk⟩ (rd_off2 hv) rfl rfl
set_option maxRecDepth 100000 in
set_option maxHeartbeats 4000000 in
theorem spec_words_set (b o cap : Nat) (verb nm : ByteArray) (ws : List ByteArray) (w : World) (ha : StrsAt w (some ⟨b, o, none⟩) (verb :: nm :: ws)) (hbl : b < w.heap.size) (hcap : (verb :: nm :: ws).length ≤ cap) (hs : ∀ x ∈ verb :: nm :: ws, x.size ≤ 1048576) (hm : (verb :: nm :: ws).length ≤ 2000000) (hv : verb.toList = [115, 101, 116]) :
    Calls Tryz.prog 38 #[.slice (some ⟨b, o, none⟩) (verb :: nm :: ws).length cap] w fun e w' => ∃ v, e = .returned v ∧ WordsRd w verb nm ws v w' := by
  have HW : Hid (WdS w (some ⟨b, o, none⟩) (verb :: nm :: ws) (doneL 0 nm 0 (.slice none 0 0) (.slice none 0 0) chg0) (((w.alloc (.cells zeros9.toArray 34)).alloc (.cells zeros9.toArray 34)).setCells (w.heap.size + 1) 0 (doneL 0 nm 0 (.slice none 0 0) (.slice none 0 0) chg0))) := wds_start w b o _ _ ha hbl rfl
  have hth : ((w.alloc (.cells zeros9.toArray 34)).alloc (.cells zeros9.toArray 34)).there (w.heap.size + 1) 0 19 := by
    have h := there_box (w.alloc (.cells zeros9.toArray 34)) zeros9 34 19 rfl
    rwa [size_alloc] at h
  have h1 := (by rcases ha with h | ⟨b', o', e, _, hr⟩; (cases h); (cases e; exact hr 1 nm rfl) : w.cell? ⟨b, o + 1, none⟩ = some (.string nm))
  have HS : Hid ((∀ x ∈ verb :: nm :: ws, x.size ≤ 1048576) ∧ (verb :: nm :: ws).length ≤ 2000000) := ⟨hs, hm⟩
  have v0 : (verb.toList == [116, 97, 98, 108, 101]) = false := by rw [hv]; rfl
  have v1 : (verb.toList == [112, 117, 116]) = false := by rw [hv]; rfl
  have v2 : (verb.toList == [115, 101, 116]) = true := by rw [hv]; rfl
  have v3 : (verb.toList == [111, 102, 102]) = false := by rw [hv]; rfl
  have v4 : (verb.toList == [97, 100, 100]) = false := by rw [hv]; rfl
  have v5 : (verb.toList == [100, 114, 111, 112]) = false := by rw [hv]; rfl
  have v6 : (verb.toList == [110, 97, 109, 101]) = false := by rw [hv]; rfl
  have v7 : (verb.toList == [107, 105, 110, 100]) = false := by rw [hv]; rfl
  have v8 : (verb.toList == [108, 105, 110, 107]) = false := by rw [hv]; rfl
  clear ha hs
  cases ws with
  | nil =>
    simp only [List.length_cons, List.length_nil] at hm hcap ⊢
    go_enter Tryz.func38, Tryz.ntmps38
    go_wp2_with (first | (refine st_act rfl _ _ rfl _ rfl (doneL 0 nm 0 (.slice none 0 0) (.slice none 0 0) chg0) rfl rfl hth (by simp [Value.oneCell']) ?_; generalize ((w.alloc (.cells zeros9.toArray 34)).alloc (.cells zeros9.toArray 34)).setCells (w.heap.size + 1) 0 (doneL 0 nm 0 (.slice none 0 0) (.slice none 0 0) chg0) = W1 at *; have h0 := HW.out.word (i := 0) rfl; rw [Nat.add_zero] at h0; have HX : Hid (WdS w (some ⟨b, o, none⟩) (verb :: nm :: ([] : List ByteArray)) (doneL 0 nm 0 (.slice none 0 0) (.slice none 0 0) chg0) W1) := HW; have hc0 := HW.out.cell (i := 0) rfl; have hf0 := HW.out.free (i := 0) (by omega)) | (first | (refine ld_act rfl _ rfl (w.heap.size + 1) rfl (doneL 0 nm 0 (.slice none 0 0) (.slice none 0 0) chg0) HX.out.ra rfl ?_) | (refine st_act rfl _ _ rfl w.heap.size rfl (doneL 0 nm 0 (.slice none 0 0) (.slice none 0 0) chg0) rfl rfl HX.out.rb (by simp [Value.oneCell']) ?_)))
    exact words_ret (x := ⟨0, nm, 0, [], [], chg0, lnk0⟩) HX.out (Nat.lt_succ_self _) (own_none9 _ _ _ _) (own_none9 _ _ _ _) ⟨fit0 (HS.out.1 nm (by simp)), ⟨fun _ h => by simp at h, Nat.zero_le _⟩, ⟨fun _ h => by simp at h, Nat.zero_le _⟩, nochg, nolnk⟩ (rd_short (by rw [hv]; decide) (by rw [hv]; decide)) rfl rfl
  | cons z r =>
  have hzs : z.size ≤ maxLen := fit0 (HS.out.1 z (by simp))
  cases r with
  | nil =>
    simp only [List.length_cons, List.length_nil] at hm hcap ⊢
    by_cases hc3' : cap = 3
    · subst hc3'
      go_enter Tryz.func38, Tryz.ntmps38
      go_wp2_with (refine st_act rfl _ _ rfl _ rfl (doneL 0 nm 0 (.slice none 0 0) (.slice none 0 0) chg0) rfl rfl hth (by simp [Value.oneCell']) ?_; generalize ((w.alloc (.cells zeros9.toArray 34)).alloc (.cells zeros9.toArray 34)).setCells (w.heap.size + 1) 0 (doneL 0 nm 0 (.slice none 0 0) (.slice none 0 0) chg0) = W1 at *; have h0 := HW.out.word (i := 0) rfl; rw [Nat.add_zero] at h0; have hc0 := HW.out.cell (i := 0) rfl; have hf0 := HW.out.free (i := 0) (by omega); have hz := HW.out.word (i := 2) rfl)
      refine (num_any z _ hzs).mono ?_
      rintro e w3 ⟨rfl, hww⟩
      rw [hww]
      clear hww
      have H2 := HW.out.set hbl 0 (.int .i64 4) (doneL 4 nm 0 (.slice none 0 0) (.slice none 0 0) chg0) rfl (by omega) rfl
      have hc2 := H2.cell (i := 2) rfl
      have hf2 := H2.free (i := 2) (by omega)
      have H3 : Hid (WdS w (some ⟨b, o, none⟩) (verb :: nm :: z :: ([] : List ByteArray)) (doneL 4 nm (numL z.data.toList).1 (.slice none 0 0) (.slice none 0 0) chg0) ((W1.setCell ⟨w.heap.size + 1, 0, none⟩ (.int .i64 4)).setCell ⟨w.heap.size + 1, 2, none⟩ (.int .i64 (numL z.data.toList).1))) := H2.set hbl 2 _ _ rfl (by omega) rfl
      clear H2
      have hc3 := H3.out.cell (i := 3) rfl
      go_wp2_with fail
      refine (spec_read_sets _ _ ([] : List ByteArray) _ (Or.inl rfl) (fun y hy => by simp at hy) (by simp)).mono ?_
      rintro e w4 ⟨u, M, rfl, hO, hsm, hl6, hrel⟩
      obtain ⟨ad, cp, rfl, _⟩ := own_sets9 hO.1
      have H4 := H3.out.next hO.2
      have HO : Hid (w4.ownsRow W1.heap.size 102 4 (.slice ad M.length cp) M.length (M.flatMap ASet.cells) ∧ w.heap.size + 1 < W1.heap.size) := ⟨by have h := hO.1; simpa using h, HW.out.lt⟩
      have HM : Hid ((∀ c ∈ M, c.nm.size ≤ 1048576 ∧ c.s.size ≤ 1048576) ∧ M.length ≤ 6 ∧ ∀ L : List ASet, (∀ c ∈ L, c.ok = true) → L.length ≤ 5 → (([] : List ByteArray)).map (·.data.toList) = L.map setW → M = L) := ⟨hsm, hl6, hrel⟩
      have hc4 := H4.cell (i := 3) rfl
      have hf4 := H4.free (i := 3) (by omega)
      have HX : Hid (WdS w (some ⟨b, o, none⟩) (verb :: nm :: z :: ([] : List ByteArray)) (doneL 4 nm (numL z.data.toList).1 (.slice ad M.length cp) (.slice none 0 0) chg0) (w4.setCell ⟨w.heap.size + 1, 3, none⟩ (.slice ad M.length cp))) := H4.set hbl 3 _ _ rfl (by omega) rfl
      clear hO hsm hl6 hrel h0 hc0 hf0 HW H4 H3 hc3 hc2 hf2
      go_wp2_with (first | (refine ld_act rfl _ rfl (w.heap.size + 1) rfl (doneL 4 nm (numL z.data.toList).1 (.slice ad M.length cp) (.slice none 0 0) chg0) HX.out.ra rfl ?_) | (refine st_act rfl _ _ rfl w.heap.size rfl (doneL 4 nm (numL z.data.toList).1 (.slice ad M.length cp) (.slice none 0 0) chg0) rfl rfl HX.out.rb (by simp [Value.oneCell']) ?_))
      exact words_ret (x := ⟨4, nm, (numL z.data.toList).1, M, [], chg0, lnk0⟩) HX.out HO.out.2 (own_apart9 HO.out.1 HO.out.2 3 [.slice ad M.length cp]) (own_none9 _ _ _ _) ⟨fit0 (HS.out.1 nm (by simp)), setm_fit HM.out.1 HM.out.2.1, ⟨fun _ h => by simp at h, Nat.zero_le _⟩, nochg, nolnk⟩ (rd_set2 HM.out.2.2 hv) rfl rfl
    · have hl3 : (3 : Int) ≤ cap := by omega
      go_enter Tryz.func38, Tryz.ntmps38
      go_wp2_with (refine st_act rfl _ _ rfl _ rfl (doneL 0 nm 0 (.slice none 0 0) (.slice none 0 0) chg0) rfl rfl hth (by simp [Value.oneCell']) ?_; generalize ((w.alloc (.cells zeros9.toArray 34)).alloc (.cells zeros9.toArray 34)).setCells (w.heap.size + 1) 0 (doneL 0 nm 0 (.slice none 0 0) (.slice none 0 0) chg0) = W1 at *; have h0 := HW.out.word (i := 0) rfl; rw [Nat.add_zero] at h0; have hc0 := HW.out.cell (i := 0) rfl; have hf0 := HW.out.free (i := 0) (by omega); have hz := HW.out.word (i := 2) rfl)
      refine (num_any z _ hzs).mono ?_
      rintro e w3 ⟨rfl, hww⟩
      rw [hww]
      clear hww
      have H2 := HW.out.set hbl 0 (.int .i64 4) (doneL 4 nm 0 (.slice none 0 0) (.slice none 0 0) chg0) rfl (by omega) rfl
      have hc2 := H2.cell (i := 2) rfl
      have hf2 := H2.free (i := 2) (by omega)
      have H3 : Hid (WdS w (some ⟨b, o, none⟩) (verb :: nm :: z :: ([] : List ByteArray)) (doneL 4 nm (numL z.data.toList).1 (.slice none 0 0) (.slice none 0 0) chg0) ((W1.setCell ⟨w.heap.size + 1, 0, none⟩ (.int .i64 4)).setCell ⟨w.heap.size + 1, 2, none⟩ (.int .i64 (numL z.data.toList).1))) := H2.set hbl 2 _ _ rfl (by omega) rfl
      clear H2
      have hc3 := H3.out.cell (i := 3) rfl
      go_wp2_with fail
      refine (spec_read_sets _ _ ([] : List ByteArray) _ (Or.inl rfl) (fun y hy => by simp at hy) (by simp)).mono ?_
      rintro e w4 ⟨u, M, rfl, hO, hsm, hl6, hrel⟩
      obtain ⟨ad, cp, rfl, _⟩ := own_sets9 hO.1
      have H4 := H3.out.next hO.2
      have HO : Hid (w4.ownsRow W1.heap.size 102 4 (.slice ad M.length cp) M.length (M.flatMap ASet.cells) ∧ w.heap.size + 1 < W1.heap.size) := ⟨by have h := hO.1; simpa using h, HW.out.lt⟩
      have HM : Hid ((∀ c ∈ M, c.nm.size ≤ 1048576 ∧ c.s.size ≤ 1048576) ∧ M.length ≤ 6 ∧ ∀ L : List ASet, (∀ c ∈ L, c.ok = true) → L.length ≤ 5 → (([] : List ByteArray)).map (·.data.toList) = L.map setW → M = L) := ⟨hsm, hl6, hrel⟩
      have hc4 := H4.cell (i := 3) rfl
      have hf4 := H4.free (i := 3) (by omega)
      have HX : Hid (WdS w (some ⟨b, o, none⟩) (verb :: nm :: z :: ([] : List ByteArray)) (doneL 4 nm (numL z.data.toList).1 (.slice ad M.length cp) (.slice none 0 0) chg0) (w4.setCell ⟨w.heap.size + 1, 3, none⟩ (.slice ad M.length cp))) := H4.set hbl 3 _ _ rfl (by omega) rfl
      clear hO hsm hl6 hrel h0 hc0 hf0 HW H4 H3 hc3 hc2 hf2
      go_wp2_with (first | (refine ld_act rfl _ rfl (w.heap.size + 1) rfl (doneL 4 nm (numL z.data.toList).1 (.slice ad M.length cp) (.slice none 0 0) chg0) HX.out.ra rfl ?_) | (refine st_act rfl _ _ rfl w.heap.size rfl (doneL 4 nm (numL z.data.toList).1 (.slice ad M.length cp) (.slice none 0 0) chg0) rfl rfl HX.out.rb (by simp [Value.oneCell']) ?_))
      exact words_ret (x := ⟨4, nm, (numL z.data.toList).1, M, [], chg0, lnk0⟩) HX.out HO.out.2 (own_apart9 HO.out.1 HO.out.2 3 [.slice ad M.length cp]) (own_none9 _ _ _ _) ⟨fit0 (HS.out.1 nm (by simp)), setm_fit HM.out.1 HM.out.2.1, ⟨fun _ h => by simp at h, Nat.zero_le _⟩, nochg, nolnk⟩ (rd_set2 HM.out.2.2 hv) rfl rfl
  | cons x r =>
    simp only [List.length_cons] at hm hcap ⊢
    have hc3' : ¬ cap = 3 := by omega
    have i0 : (0 : Int) < (r.length : Int) + 1 + 1 + 1 + 1 := by omega
    have i1 : (1 : Int) < (r.length : Int) + 1 + 1 + 1 + 1 := by omega
    have i2 : (2 : Int) < (r.length : Int) + 1 + 1 + 1 + 1 := by omega
    have i3 : ¬ ((r.length : Int) + 1 + 1 + 1 + 1 < 3) := by omega
    have i4 : (3 : Int) ≤ (r.length : Int) + 1 + 1 + 1 + 1 := by omega
    go_enter Tryz.func38, Tryz.ntmps38
    go_wp2_with (refine st_act rfl _ _ rfl _ rfl (doneL 0 nm 0 (.slice none 0 0) (.slice none 0 0) chg0) rfl rfl hth (by simp [Value.oneCell']) ?_; generalize ((w.alloc (.cells zeros9.toArray 34)).alloc (.cells zeros9.toArray 34)).setCells (w.heap.size + 1) 0 (doneL 0 nm 0 (.slice none 0 0) (.slice none 0 0) chg0) = W1 at *; have h0 := HW.out.word (i := 0) rfl; rw [Nat.add_zero] at h0; have hc0 := HW.out.cell (i := 0) rfl; have hf0 := HW.out.free (i := 0) (by omega); have hz := HW.out.word (i := 2) rfl)
    refine (num_any z _ hzs).mono ?_
    rintro e w3 ⟨rfl, hww⟩
    rw [hww]
    clear hww
    have H2 := HW.out.set hbl 0 (.int .i64 4) (doneL 4 nm 0 (.slice none 0 0) (.slice none 0 0) chg0) rfl (by omega) rfl
    have hc2 := H2.cell (i := 2) rfl
    have hf2 := H2.free (i := 2) (by omega)
    have H3 : Hid (WdS w (some ⟨b, o, none⟩) (verb :: nm :: z :: x :: r) (doneL 4 nm (numL z.data.toList).1 (.slice none 0 0) (.slice none 0 0) chg0) ((W1.setCell ⟨w.heap.size + 1, 0, none⟩ (.int .i64 4)).setCell ⟨w.heap.size + 1, 2, none⟩ (.int .i64 (numL z.data.toList).1))) := H2.set hbl 2 _ _ rfl (by omega) rfl
    clear H2
    have hc3 := H3.out.cell (i := 3) rfl
    go_wp2_with fail
    refine (spec_read_sets _ _ (x :: r) _ H3.out.tail3 (fun y hy => HS.out.1 y (by simp only [List.mem_cons] at hy ⊢; exact Or.inr (Or.inr (Or.inr hy)))) (by simp only [List.length_cons]; omega)).mono ?_
    rintro e w4 ⟨u, M, rfl, hO, hsm, hl6, hrel⟩
    obtain ⟨ad, cp, rfl, _⟩ := own_sets9 hO.1
    have H4 := H3.out.next hO.2
    have HO : Hid (w4.ownsRow W1.heap.size 102 4 (.slice ad M.length cp) M.length (M.flatMap ASet.cells) ∧ w.heap.size + 1 < W1.heap.size) := ⟨by have h := hO.1; simpa using h, HW.out.lt⟩
    have HM : Hid ((∀ c ∈ M, c.nm.size ≤ 1048576 ∧ c.s.size ≤ 1048576) ∧ M.length ≤ 6 ∧ ∀ L : List ASet, (∀ c ∈ L, c.ok = true) → L.length ≤ 5 → ((x :: r)).map (·.data.toList) = L.map setW → M = L) := ⟨hsm, hl6, hrel⟩
    have hc4 := H4.cell (i := 3) rfl
    have hf4 := H4.free (i := 3) (by omega)
    have HX : Hid (WdS w (some ⟨b, o, none⟩) (verb :: nm :: z :: (x :: r)) (doneL 4 nm (numL z.data.toList).1 (.slice ad M.length cp) (.slice none 0 0) chg0) (w4.setCell ⟨w.heap.size + 1, 3, none⟩ (.slice ad M.length cp))) := H4.set hbl 3 _ _ rfl (by omega) rfl
    clear hO hsm hl6 hrel h0 hc0 hf0 HW H4 H3 hc3 hc2 hf2
    go_wp2_with (first | (refine ld_act rfl _ rfl (w.heap.size + 1) rfl (doneL 4 nm (numL z.data.toList).1 (.slice ad M.length cp) (.slice none 0 0) chg0) HX.out.ra rfl ?_) | (refine st_act rfl _ _ rfl w.heap.size rfl (doneL 4 nm (numL z.data.toList).1 (.slice ad M.length cp) (.slice none 0 0) chg0) rfl rfl HX.out.rb (by simp [Value.oneCell']) ?_))
    exact words_ret (x := ⟨4, nm, (numL z.data.toList).1, M, [], chg0, lnk0⟩) HX.out HO.out.2 (own_apart9 HO.out.1 HO.out.2 3 [.slice ad M.length cp]) (own_none9 _ _ _ _) ⟨fit0 (HS.out.1 nm (by simp)), setm_fit HM.out.1 HM.out.2.1, ⟨fun _ h => by simp at h, Nat.zero_le _⟩, nochg, nolnk⟩ (rd_set2 HM.out.2.2 hv) rfl rfl

end Go.Proofs.YtpcfebekkgfpjaaGreatDoor

/- The contract of spec.l5Words at changes, and at words that are nobody's, over the seat's translation. -/
namespace Go.Proofs.YtpcfebekkgfpjaaGreatDoor
open Go.RowKit

theorem chg_fit {g : AChg} (h : chgSmall g) : g.fit := by
  obtain ⟨h1, h2, h3, h4⟩ := h
  unfold AChg.fit ACol.fit maxLen
  omega

set_option maxRecDepth 100000 in
set_option maxHeartbeats 4000000 in
theorem spec_words_other (b o cap : Nat) (verb nm : ByteArray) (ws : List ByteArray) (w : World) (ha : StrsAt w (some ⟨b, o, none⟩) (verb :: nm :: ws)) (hbl : b < w.heap.size) (hcap : (verb :: nm :: ws).length ≤ cap) (hs : ∀ x ∈ verb :: nm :: ws, x.size ≤ 1048576) (hm : (verb :: nm :: ws).length ≤ 2000000) (v0 : (verb.toList == [116, 97, 98, 108, 101]) = false) (v1 : (verb.toList == [112, 117, 116]) = false) (v2 : (verb.toList == [115, 101, 116]) = false) (v3 : (verb.toList == [111, 102, 102]) = false) (v4 : (verb.toList == [97, 100, 100]) = false) (v5 : (verb.toList == [100, 114, 111, 112]) = false) (v6 : (verb.toList == [110, 97, 109, 101]) = false) (v7 : (verb.toList == [107, 105, 110, 100]) = false) (v8 : (verb.toList == [108, 105, 110, 107]) = false) :
    Calls Tryz.prog 38 #[.slice (some ⟨b, o, none⟩) (verb :: nm :: ws).length cap] w fun e w' => ∃ v, e = .returned v ∧ WordsRd w verb nm ws v w' := by
  have HW : Hid (WdS w (some ⟨b, o, none⟩) (verb :: nm :: ws) (doneL 0 nm 0 (.slice none 0 0) (.slice none 0 0) chg0) (((w.alloc (.cells zeros9.toArray 34)).alloc (.cells zeros9.toArray 34)).setCells (w.heap.size + 1) 0 (doneL 0 nm 0 (.slice none 0 0) (.slice none 0 0) chg0))) := wds_start w b o _ _ ha hbl rfl
  have hth : ((w.alloc (.cells zeros9.toArray 34)).alloc (.cells zeros9.toArray 34)).there (w.heap.size + 1) 0 19 := by
    have h := there_box (w.alloc (.cells zeros9.toArray 34)) zeros9 34 19 rfl
    rwa [size_alloc] at h
  have h1 := (by rcases ha with h | ⟨b', o', e, _, hr⟩; (cases h); (cases e; exact hr 1 nm rfl) : w.cell? ⟨b, o + 1, none⟩ = some (.string nm))
  have HS : Hid ((∀ x ∈ verb :: nm :: ws, x.size ≤ 1048576) ∧ (verb :: nm :: ws).length ≤ 2000000) := ⟨hs, hm⟩
  clear ha hs
  cases ws with
  | nil =>
    simp only [List.length_cons, List.length_nil] at hm hcap ⊢
    go_enter Tryz.func38, Tryz.ntmps38
    go_wp2_with (first | (refine st_act rfl _ _ rfl _ rfl (doneL 0 nm 0 (.slice none 0 0) (.slice none 0 0) chg0) rfl rfl hth (by simp [Value.oneCell']) ?_; generalize ((w.alloc (.cells zeros9.toArray 34)).alloc (.cells zeros9.toArray 34)).setCells (w.heap.size + 1) 0 (doneL 0 nm 0 (.slice none 0 0) (.slice none 0 0) chg0) = W1 at *; have h0 := HW.out.word (i := 0) rfl; rw [Nat.add_zero] at h0; have HX : Hid (WdS w (some ⟨b, o, none⟩) (verb :: nm :: ([] : List ByteArray)) (doneL 0 nm 0 (.slice none 0 0) (.slice none 0 0) chg0) W1) := HW; have hc0 := HW.out.cell (i := 0) rfl; have hf0 := HW.out.free (i := 0) (by omega)) | (first | (refine ld_act rfl _ rfl (w.heap.size + 1) rfl (doneL 0 nm 0 (.slice none 0 0) (.slice none 0 0) chg0) HX.out.ra rfl ?_) | (refine st_act rfl _ _ rfl w.heap.size rfl (doneL 0 nm 0 (.slice none 0 0) (.slice none 0 0) chg0) rfl rfl HX.out.rb (by simp [Value.oneCell']) ?_)))
    exact words_ret (x := ⟨0, nm, 0, [], [], chg0, lnk0⟩) HX.out (Nat.lt_succ_self _) (own_none9 _ _ _ _) (own_none9 _ _ _ _) ⟨fit0 (HS.out.1 nm (by simp)), ⟨fun _ h => by simp at h, Nat.zero_le _⟩, ⟨fun _ h => by simp at h, Nat.zero_le _⟩, nochg, nolnk⟩ (fun y hy e => absurd e (rd_none v0 v8 v1 v2 v3 v4 v5 v6 v7 _ y hy)) rfl rfl
  | cons z r =>
    simp only [List.length_cons] at hm hcap ⊢
    have i0 : (0 : Int) < (r.length : Int) + 1 + 1 + 1 := by omega
    have i1 : (1 : Int) < (r.length : Int) + 1 + 1 + 1 := by omega
    have i3 : ¬ ((r.length : Int) + 1 + 1 + 1 < 3) := by omega
    go_enter Tryz.func38, Tryz.ntmps38
    go_wp2_with (first | (refine st_act rfl _ _ rfl _ rfl (doneL 0 nm 0 (.slice none 0 0) (.slice none 0 0) chg0) rfl rfl hth (by simp [Value.oneCell']) ?_; generalize ((w.alloc (.cells zeros9.toArray 34)).alloc (.cells zeros9.toArray 34)).setCells (w.heap.size + 1) 0 (doneL 0 nm 0 (.slice none 0 0) (.slice none 0 0) chg0) = W1 at *; have h0 := HW.out.word (i := 0) rfl; rw [Nat.add_zero] at h0; have HX : Hid (WdS w (some ⟨b, o, none⟩) (verb :: nm :: z :: r) (doneL 0 nm 0 (.slice none 0 0) (.slice none 0 0) chg0) W1) := HW; have hc0 := HW.out.cell (i := 0) rfl; have hf0 := HW.out.free (i := 0) (by omega)) | (first | (refine ld_act rfl _ rfl (w.heap.size + 1) rfl (doneL 0 nm 0 (.slice none 0 0) (.slice none 0 0) chg0) HX.out.ra rfl ?_) | (refine st_act rfl _ _ rfl w.heap.size rfl (doneL 0 nm 0 (.slice none 0 0) (.slice none 0 0) chg0) rfl rfl HX.out.rb (by simp [Value.oneCell']) ?_)))
    exact words_ret (x := ⟨0, nm, 0, [], [], chg0, lnk0⟩) HX.out (Nat.lt_succ_self _) (own_none9 _ _ _ _) (own_none9 _ _ _ _) ⟨fit0 (HS.out.1 nm (by simp)), ⟨fun _ h => by simp at h, Nat.zero_le _⟩, ⟨fun _ h => by simp at h, Nat.zero_le _⟩, nochg, nolnk⟩ (fun y hy e => absurd e (rd_none v0 v8 v1 v2 v3 v4 v5 v6 v7 _ y hy)) rfl rfl

end Go.Proofs.YtpcfebekkgfpjaaGreatDoor
