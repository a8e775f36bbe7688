/- The contract of spec.l5Words at changes, over the seat's translation. -/
import Derived.Test.YtpcfebekkgfpjaaGreatDoorG34
namespace Go.Proofs.YtpcfebekkgfpjaaGreatDoor
open Go.RowKit

theorem chg_size : (Tryz.prog.info? 30).map (·.size) = some 10 := by kernel_rfl
/-- A change of what is done, stored whole. -/
theorem st_chg {ops : Array Oper} {rest : List Oper} {op : Oper} {a : Act} {w : World} {Q : Exit → Act → World → Prop} (hgd : op.guard = none) (x y : Operand) (ho : op.op = .store 30 x y)
    (B : Nat) (hx : a.eval x = .pointer (some ⟨B, 5, none⟩)) (cs : List Value) (hy : a.eval y = .agg cs.toArray) (hl : cs.length = 10) (ht : w.there B 5 10) (h1 : ∀ v ∈ cs, v.oneCell' = true)
    (h : wpList Tryz.prog ops Q rest (a.put op.dst undef) (w.setCells B 5 cs)) : wpList Tryz.prog ops Q (op :: rest) a w :=
  wpList_store_mid hgd _ x y ho B 5 cs.toArray hx hy (by simpa [hl] using ht) (by simp [chg_size, hl]) (all_oneCell_toArray h1) (by simpa using h)
def setL : List Value → Nat → List Value → List Value
  | cs, _, [] => cs
  | cs, i, v :: r => setL (cs.set i v) (i + 1) r
theorem WdS.sets {w : World} {b o : Nat} {ws : List ByteArray} (hbl : b < w.heap.size) : ∀ (vs : List Value) (cs : List Value) (i : Nat) (W : World), WdS w (some ⟨b, o, none⟩) ws cs W → i + vs.length ≤ 19 → cs.length = 19 → WdS w (some ⟨b, o, none⟩) ws (setL cs i vs) (W.setCells (w.heap.size + 1) i vs)
  | [], _, _, _, h, _, _ => h
  | v :: r, cs, i, W, h, hi, hl => by
    rw [List.length_cons] at hi
    exact WdS.sets hbl r (cs.set i v) (i + 1) _ (h.set hbl i v _ rfl (by omega) hl) (by omega) (by simpa using hl)
theorem WdS.there5 {w : World} {a : Option Addr} {ws : List ByteArray} {cs : List Value} {W : World} (h : WdS w a ws cs W) : W.there (w.heap.size + 1) 5 10 := fun j hj => by
  have := h.th (5 + j) (by omega)
  rwa [Nat.zero_add] at this

set_option maxRecDepth 100000 in
set_option maxHeartbeats 4000000 in
theorem spec_words_add (b o cap : Nat) (verb nm : ByteArray) (ws : List ByteArray) (w : World) (ha : StrsAt w (some ⟨b, o, none⟩) (verb :: nm :: ws)) (hbl : b < w.heap.size) (hcap : (verb :: nm :: ws).length ≤ cap) (hs : ∀ x ∈ verb :: nm :: ws, x.size ≤ 1048576) (hm : (verb :: nm :: ws).length ≤ 2000000) (hv : verb.toList = [97, 100, 100]) :
    Calls Tryz.prog 38 #[.slice (some ⟨b, o, none⟩) (verb :: nm :: ws).length cap] w fun e w' => ∃ v, e = .returned v ∧ WordsRd w verb nm ws v w' := by
  have HW : Hid (WdS w (some ⟨b, o, none⟩) (verb :: nm :: ws) (doneL 0 nm 0 (.slice none 0 0) (.slice none 0 0) chg0) (((w.alloc (.cells zeros9.toArray 34)).alloc (.cells zeros9.toArray 34)).setCells (w.heap.size + 1) 0 (doneL 0 nm 0 (.slice none 0 0) (.slice none 0 0) chg0))) := wds_start w b o _ _ ha hbl rfl
  have hth : ((w.alloc (.cells zeros9.toArray 34)).alloc (.cells zeros9.toArray 34)).there (w.heap.size + 1) 0 19 := by
    have h := there_box (w.alloc (.cells zeros9.toArray 34)) zeros9 34 19 rfl
    rwa [size_alloc] at h
  have h1 := (by rcases ha with h | ⟨b', o', e, _, hr⟩; (cases h); (cases e; exact hr 1 nm rfl) : w.cell? ⟨b, o + 1, none⟩ = some (.string nm))
  have HS : Hid ((∀ x ∈ verb :: nm :: ws, x.size ≤ 1048576) ∧ (verb :: nm :: ws).length ≤ 2000000) := ⟨hs, hm⟩
  have v0 : (verb.toList == [116, 97, 98, 108, 101]) = false := by rw [hv]; rfl
  have v1 : (verb.toList == [112, 117, 116]) = false := by rw [hv]; rfl
  have v2 : (verb.toList == [115, 101, 116]) = false := by rw [hv]; rfl
  have v3 : (verb.toList == [111, 102, 102]) = false := by rw [hv]; rfl
  have v4 : (verb.toList == [97, 100, 100]) = true := by rw [hv]; rfl
  have v5 : (verb.toList == [100, 114, 111, 112]) = false := by rw [hv]; rfl
  have v6 : (verb.toList == [110, 97, 109, 101]) = false := by rw [hv]; rfl
  have v7 : (verb.toList == [107, 105, 110, 100]) = false := by rw [hv]; rfl
  have v8 : (verb.toList == [108, 105, 110, 107]) = false := by rw [hv]; rfl
  clear ha hs
  cases ws with
  | nil =>
    simp only [List.length_cons, List.length_nil] at hm hcap ⊢
    go_enter Tryz.func38, Tryz.ntmps38
    go_wp2_with (first | (refine st_act rfl _ _ rfl _ rfl (doneL 0 nm 0 (.slice none 0 0) (.slice none 0 0) chg0) rfl rfl hth (by simp [Value.oneCell']) ?_; generalize ((w.alloc (.cells zeros9.toArray 34)).alloc (.cells zeros9.toArray 34)).setCells (w.heap.size + 1) 0 (doneL 0 nm 0 (.slice none 0 0) (.slice none 0 0) chg0) = W1 at *; have h0 := HW.out.word (i := 0) rfl; rw [Nat.add_zero] at h0; have HX : Hid (WdS w (some ⟨b, o, none⟩) (verb :: nm :: ([] : List ByteArray)) (doneL 0 nm 0 (.slice none 0 0) (.slice none 0 0) chg0) W1) := HW; have hc0 := HW.out.cell (i := 0) rfl; have hf0 := HW.out.free (i := 0) (by omega)) | (first | (refine ld_act rfl _ rfl (w.heap.size + 1) rfl (doneL 0 nm 0 (.slice none 0 0) (.slice none 0 0) chg0) HX.out.ra rfl ?_) | (refine st_act rfl _ _ rfl w.heap.size rfl (doneL 0 nm 0 (.slice none 0 0) (.slice none 0 0) chg0) rfl rfl HX.out.rb (by simp [Value.oneCell']) ?_)))
    exact words_ret (x := ⟨0, nm, 0, [], [], chg0, lnk0⟩) HX.out (Nat.lt_succ_self _) (own_none9 _ _ _ _) (own_none9 _ _ _ _) ⟨fit0 (HS.out.1 nm (by simp)), ⟨fun _ h => by simp at h, Nat.zero_le _⟩, ⟨fun _ h => by simp at h, Nat.zero_le _⟩, nochg, nolnk⟩ (rd_short (by rw [hv]; decide) (by rw [hv]; decide)) rfl rfl
  | cons z r =>
    simp only [List.length_cons] at hm hcap ⊢
    have i0 : (0 : Int) < (r.length : Int) + 1 + 1 + 1 := by omega
    have i1 : (1 : Int) < (r.length : Int) + 1 + 1 + 1 := by omega
    have i2 : (2 : Int) < (r.length : Int) + 1 + 1 + 1 := by omega
    have i3 : ¬ ((r.length : Int) + 1 + 1 + 1 < 3) := by omega
    have i4 : (3 : Int) ≤ (r.length : Int) + 1 + 1 + 1 := by omega
    have hzs : z.size ≤ maxLen := fit0 (HS.out.1 z (by simp))
    go_enter Tryz.func38, Tryz.ntmps38
    go_wp2_with (refine st_act rfl _ _ rfl _ rfl (doneL 0 nm 0 (.slice none 0 0) (.slice none 0 0) chg0) rfl rfl hth (by simp [Value.oneCell']) ?_; generalize ((w.alloc (.cells zeros9.toArray 34)).alloc (.cells zeros9.toArray 34)).setCells (w.heap.size + 1) 0 (doneL 0 nm 0 (.slice none 0 0) (.slice none 0 0) chg0) = W1 at *; have h0 := HW.out.word (i := 0) rfl; rw [Nat.add_zero] at h0; have hc0 := HW.out.cell (i := 0) rfl; have hf0 := HW.out.free (i := 0) (by omega); have hz := HW.out.word (i := 2) rfl)
    have H2 := HW.out.set hbl 0 (.int .i64 6) (doneL 6 nm 0 (.slice none 0 0) (.slice none 0 0) chg0) rfl (by omega) rfl
    refine (spec_read_turn (some ⟨b, o, none⟩) cap verb nm z r _ H2.st HS.out.1 HS.out.2 (Or.inl hv)).mono ?_
    rintro e w4 ⟨g, rfl, hg, hrd, hq⟩
    have H4 := H2.next hq
    have HG : Hid (chgSmall g ∧ ActRd (verb.data.toList :: nm.data.toList :: (z :: r).map (·.data.toList)) ⟨6, nm, 0, [], [], g, lnk0⟩) := ⟨hg, hrd⟩
    have hth5 := H4.there5
    have HX : Hid (WdS w (some ⟨b, o, none⟩) (verb :: nm :: z :: r) (doneL 6 nm 0 (.slice none 0 0) (.slice none 0 0) g) (w4.setCells (w.heap.size + 1) 5 [.int .i64 g.kd, .string g.nm, .string g.nw, .string g.c.nm, .int .i64 g.c.kd, .bool g.c.nd, .bool g.c.oc, .int .i64 g.c.k, .int .i64 g.c.n, .string g.c.s])) := WdS.sets hbl [.int .i64 g.kd, .string g.nm, .string g.nw, .string g.c.nm, .int .i64 g.c.kd, .bool g.c.nd, .bool g.c.oc, .int .i64 g.c.k, .int .i64 g.c.n, .string g.c.s] _ 5 _ H4 (Nat.le_of_ble_eq_true rfl) rfl
    clear hq hg hrd H2 HW h0 hc0 hf0 hz H4
    go_wp2_with (first | (refine st_chg rfl _ _ rfl (w.heap.size + 1) rfl [.int .i64 g.kd, .string g.nm, .string g.nw, .string g.c.nm, .int .i64 g.c.kd, .bool g.c.nd, .bool g.c.oc, .int .i64 g.c.k, .int .i64 g.c.n, .string g.c.s] rfl rfl hth5 (by simp [Value.oneCell']) ?_; generalize w4.setCells (w.heap.size + 1) 5 [.int .i64 g.kd, .string g.nm, .string g.nw, .string g.c.nm, .int .i64 g.c.kd, .bool g.c.nd, .bool g.c.oc, .int .i64 g.c.k, .int .i64 g.c.n, .string g.c.s] = w5 at *; have hra := HX.out.ra; have hrb := HX.out.rb) | (first | (refine ld_act rfl _ rfl (w.heap.size + 1) rfl (doneL 6 nm 0 (.slice none 0 0) (.slice none 0 0) g) hra rfl ?_) | (refine st_act rfl _ _ rfl w.heap.size rfl (doneL 6 nm 0 (.slice none 0 0) (.slice none 0 0) g) rfl rfl hrb (by simp [Value.oneCell']) ?_)))
    exact words_ret (x := ⟨6, nm, 0, [], [], g, lnk0⟩) HX.out (Nat.lt_succ_self _) (own_none9 _ _ _ _) (own_none9 _ _ _ _) ⟨fit0 (HS.out.1 nm (by simp)), ⟨fun _ h => by simp at h, Nat.zero_le _⟩, ⟨fun _ h => by simp at h, Nat.zero_le _⟩, chg_fit HG.out.1, nolnk⟩ HG.out.2 rfl rfl
set_option maxRecDepth 100000 in
set_option maxHeartbeats 4000000 in
theorem spec_words_drop (b o cap : Nat) (verb nm : ByteArray) (ws : List ByteArray) (w : World) (ha : StrsAt w (some ⟨b, o, none⟩) (verb :: nm :: ws)) (hbl : b < w.heap.size) (hcap : (verb :: nm :: ws).length ≤ cap) (hs : ∀ x ∈ verb :: nm :: ws, x.size ≤ 1048576) (hm : (verb :: nm :: ws).length ≤ 2000000) (hv : verb.toList = [100, 114, 111, 112]) :
    Calls Tryz.prog 38 #[.slice (some ⟨b, o, none⟩) (verb :: nm :: ws).length cap] w fun e w' => ∃ v, e = .returned v ∧ WordsRd w verb nm ws v w' := by
  have HW : Hid (WdS w (some ⟨b, o, none⟩) (verb :: nm :: ws) (doneL 0 nm 0 (.slice none 0 0) (.slice none 0 0) chg0) (((w.alloc (.cells zeros9.toArray 34)).alloc (.cells zeros9.toArray 34)).setCells (w.heap.size + 1) 0 (doneL 0 nm 0 (.slice none 0 0) (.slice none 0 0) chg0))) := wds_start w b o _ _ ha hbl rfl
  have hth : ((w.alloc (.cells zeros9.toArray 34)).alloc (.cells zeros9.toArray 34)).there (w.heap.size + 1) 0 19 := by
    have h := there_box (w.alloc (.cells zeros9.toArray 34)) zeros9 34 19 rfl
    rwa [size_alloc] at h
  have h1 := (by rcases ha with h | ⟨b', o', e, _, hr⟩; (cases h); (cases e; exact hr 1 nm rfl) : w.cell? ⟨b, o + 1, none⟩ = some (.string nm))
  have HS : Hid ((∀ x ∈ verb :: nm :: ws, x.size ≤ 1048576) ∧ (verb :: nm :: ws).length ≤ 2000000) := ⟨hs, hm⟩
  have v0 : (verb.toList == [116, 97, 98, 108, 101]) = false := by rw [hv]; rfl
  have v1 : (verb.toList == [112, 117, 116]) = false := by rw [hv]; rfl
  have v2 : (verb.toList == [115, 101, 116]) = false := by rw [hv]; rfl
  have v3 : (verb.toList == [111, 102, 102]) = false := by rw [hv]; rfl
  have v4 : (verb.toList == [97, 100, 100]) = false := by rw [hv]; rfl
  have v5 : (verb.toList == [100, 114, 111, 112]) = true := by rw [hv]; rfl
  have v6 : (verb.toList == [110, 97, 109, 101]) = false := by rw [hv]; rfl
  have v7 : (verb.toList == [107, 105, 110, 100]) = false := by rw [hv]; rfl
  have v8 : (verb.toList == [108, 105, 110, 107]) = false := by rw [hv]; rfl
  clear ha hs
  cases ws with
  | nil =>
    simp only [List.length_cons, List.length_nil] at hm hcap ⊢
    go_enter Tryz.func38, Tryz.ntmps38
    go_wp2_with (first | (refine st_act rfl _ _ rfl _ rfl (doneL 0 nm 0 (.slice none 0 0) (.slice none 0 0) chg0) rfl rfl hth (by simp [Value.oneCell']) ?_; generalize ((w.alloc (.cells zeros9.toArray 34)).alloc (.cells zeros9.toArray 34)).setCells (w.heap.size + 1) 0 (doneL 0 nm 0 (.slice none 0 0) (.slice none 0 0) chg0) = W1 at *; have h0 := HW.out.word (i := 0) rfl; rw [Nat.add_zero] at h0; have HX : Hid (WdS w (some ⟨b, o, none⟩) (verb :: nm :: ([] : List ByteArray)) (doneL 0 nm 0 (.slice none 0 0) (.slice none 0 0) chg0) W1) := HW; have hc0 := HW.out.cell (i := 0) rfl; have hf0 := HW.out.free (i := 0) (by omega)) | (first | (refine ld_act rfl _ rfl (w.heap.size + 1) rfl (doneL 0 nm 0 (.slice none 0 0) (.slice none 0 0) chg0) HX.out.ra rfl ?_) | (refine st_act rfl _ _ rfl w.heap.size rfl (doneL 0 nm 0 (.slice none 0 0) (.slice none 0 0) chg0) rfl rfl HX.out.rb (by simp [Value.oneCell']) ?_)))
    exact words_ret (x := ⟨0, nm, 0, [], [], chg0, lnk0⟩) HX.out (Nat.lt_succ_self _) (own_none9 _ _ _ _) (own_none9 _ _ _ _) ⟨fit0 (HS.out.1 nm (by simp)), ⟨fun _ h => by simp at h, Nat.zero_le _⟩, ⟨fun _ h => by simp at h, Nat.zero_le _⟩, nochg, nolnk⟩ (rd_short (by rw [hv]; decide) (by rw [hv]; decide)) rfl rfl
  | cons z r =>
    simp only [List.length_cons] at hm hcap ⊢
    have i0 : (0 : Int) < (r.length : Int) + 1 + 1 + 1 := by omega
    have i1 : (1 : Int) < (r.length : Int) + 1 + 1 + 1 := by omega
    have i2 : (2 : Int) < (r.length : Int) + 1 + 1 + 1 := by omega
    have i3 : ¬ ((r.length : Int) + 1 + 1 + 1 < 3) := by omega
    have i4 : (3 : Int) ≤ (r.length : Int) + 1 + 1 + 1 := by omega
    have hzs : z.size ≤ maxLen := fit0 (HS.out.1 z (by simp))
    go_enter Tryz.func38, Tryz.ntmps38
    go_wp2_with (refine st_act rfl _ _ rfl _ rfl (doneL 0 nm 0 (.slice none 0 0) (.slice none 0 0) chg0) rfl rfl hth (by simp [Value.oneCell']) ?_; generalize ((w.alloc (.cells zeros9.toArray 34)).alloc (.cells zeros9.toArray 34)).setCells (w.heap.size + 1) 0 (doneL 0 nm 0 (.slice none 0 0) (.slice none 0 0) chg0) = W1 at *; have h0 := HW.out.word (i := 0) rfl; rw [Nat.add_zero] at h0; have hc0 := HW.out.cell (i := 0) rfl; have hf0 := HW.out.free (i := 0) (by omega); have hz := HW.out.word (i := 2) rfl)
    have H2 := HW.out.set hbl 0 (.int .i64 6) (doneL 6 nm 0 (.slice none 0 0) (.slice none 0 0) chg0) rfl (by omega) rfl
    refine (spec_read_turn (some ⟨b, o, none⟩) cap verb nm z r _ H2.st HS.out.1 HS.out.2 (Or.inr (Or.inl hv))).mono ?_
    rintro e w4 ⟨g, rfl, hg, hrd, hq⟩
    have H4 := H2.next hq
    have HG : Hid (chgSmall g ∧ ActRd (verb.data.toList :: nm.data.toList :: (z :: r).map (·.data.toList)) ⟨6, nm, 0, [], [], g, lnk0⟩) := ⟨hg, hrd⟩
    have hth5 := H4.there5
    have HX : Hid (WdS w (some ⟨b, o, none⟩) (verb :: nm :: z :: r) (doneL 6 nm 0 (.slice none 0 0) (.slice none 0 0) g) (w4.setCells (w.heap.size + 1) 5 [.int .i64 g.kd, .string g.nm, .string g.nw, .string g.c.nm, .int .i64 g.c.kd, .bool g.c.nd, .bool g.c.oc, .int .i64 g.c.k, .int .i64 g.c.n, .string g.c.s])) := WdS.sets hbl [.int .i64 g.kd, .string g.nm, .string g.nw, .string g.c.nm, .int .i64 g.c.kd, .bool g.c.nd, .bool g.c.oc, .int .i64 g.c.k, .int .i64 g.c.n, .string g.c.s] _ 5 _ H4 (Nat.le_of_ble_eq_true rfl) rfl
    clear hq hg hrd H2 HW h0 hc0 hf0 hz H4
    go_wp2_with (first | (refine st_chg rfl _ _ rfl (w.heap.size + 1) rfl [.int .i64 g.kd, .string g.nm, .string g.nw, .string g.c.nm, .int .i64 g.c.kd, .bool g.c.nd, .bool g.c.oc, .int .i64 g.c.k, .int .i64 g.c.n, .string g.c.s] rfl rfl hth5 (by simp [Value.oneCell']) ?_; generalize w4.setCells (w.heap.size + 1) 5 [.int .i64 g.kd, .string g.nm, .string g.nw, .string g.c.nm, .int .i64 g.c.kd, .bool g.c.nd, .bool g.c.oc, .int .i64 g.c.k, .int .i64 g.c.n, .string g.c.s] = w5 at *; have hra := HX.out.ra; have hrb := HX.out.rb) | (first | (refine ld_act rfl _ rfl (w.heap.size + 1) rfl (doneL 6 nm 0 (.slice none 0 0) (.slice none 0 0) g) hra rfl ?_) | (refine st_act rfl _ _ rfl w.heap.size rfl (doneL 6 nm 0 (.slice none 0 0) (.slice none 0 0) g) rfl rfl hrb (by simp [Value.oneCell']) ?_)))
    exact words_ret (x := ⟨6, nm, 0, [], [], g, lnk0⟩) HX.out (Nat.lt_succ_self _) (own_none9 _ _ _ _) (own_none9 _ _ _ _) ⟨fit0 (HS.out.1 nm (by simp)), ⟨fun _ h => by simp at h, Nat.zero_le _⟩, ⟨fun _ h => by simp at h, Nat.zero_le _⟩, chg_fit HG.out.1, nolnk⟩ HG.out.2 rfl rfl
set_option maxRecDepth 100000 in
set_option maxHeartbeats 4000000 in
theorem spec_words_name (b o cap : Nat) (verb nm : ByteArray) (ws : List ByteArray) (w : World) (ha : StrsAt w (some ⟨b, o, none⟩) (verb :: nm :: ws)) (hbl : b < w.heap.size) (hcap : (verb :: nm :: ws).length ≤ cap) (hs : ∀ x ∈ verb :: nm :: ws, x.size ≤ 1048576) (hm : (verb :: nm :: ws).length ≤ 2000000) (hv : verb.toList = [110, 97, 109, 101]) :
    Calls Tryz.prog 38 #[.slice (some ⟨b, o, none⟩) (verb :: nm :: ws).length cap] w fun e w' => ∃ v, e = .returned v ∧ WordsRd w verb nm ws v w' := by
  have HW : Hid (WdS w (some ⟨b, o, none⟩) (verb :: nm :: ws) (doneL 0 nm 0 (.slice none 0 0) (.slice none 0 0) chg0) (((w.alloc (.cells zeros9.toArray 34)).alloc (.cells zeros9.toArray 34)).setCells (w.heap.size + 1) 0 (doneL 0 nm 0 (.slice none 0 0) (.slice none 0 0) chg0))) := wds_start w b o _ _ ha hbl rfl
  have hth : ((w.alloc (.cells zeros9.toArray 34)).alloc (.cells zeros9.toArray 34)).there (w.heap.size + 1) 0 19 := by
    have h := there_box (w.alloc (.cells zeros9.toArray 34)) zeros9 34 19 rfl
    rwa [size_alloc] at h
  have h1 := (by rcases ha with h | ⟨b', o', e, _, hr⟩; (cases h); (cases e; exact hr 1 nm rfl) : w.cell? ⟨b, o + 1, none⟩ = some (.string nm))
  have HS : Hid ((∀ x ∈ verb :: nm :: ws, x.size ≤ 1048576) ∧ (verb :: nm :: ws).length ≤ 2000000) := ⟨hs, hm⟩
  have v0 : (verb.toList == [116, 97, 98, 108, 101]) = false := by rw [hv]; rfl
  have v1 : (verb.toList == [112, 117, 116]) = false := by rw [hv]; rfl
  have v2 : (verb.toList == [115, 101, 116]) = false := by rw [hv]; rfl
  have v3 : (verb.toList == [111, 102, 102]) = false := by rw [hv]; rfl
  have v4 : (verb.toList == [97, 100, 100]) = false := by rw [hv]; rfl
  have v5 : (verb.toList == [100, 114, 111, 112]) = false := by rw [hv]; rfl
  have v6 : (verb.toList == [110, 97, 109, 101]) = true := by rw [hv]; rfl
  have v7 : (verb.toList == [107, 105, 110, 100]) = false := by rw [hv]; rfl
  have v8 : (verb.toList == [108, 105, 110, 107]) = false := by rw [hv]; rfl
  clear ha hs
  cases ws with
  | nil =>
    simp only [List.length_cons, List.length_nil] at hm hcap ⊢
    go_enter Tryz.func38, Tryz.ntmps38
    go_wp2_with (first | (refine st_act rfl _ _ rfl _ rfl (doneL 0 nm 0 (.slice none 0 0) (.slice none 0 0) chg0) rfl rfl hth (by simp [Value.oneCell']) ?_; generalize ((w.alloc (.cells zeros9.toArray 34)).alloc (.cells zeros9.toArray 34)).setCells (w.heap.size + 1) 0 (doneL 0 nm 0 (.slice none 0 0) (.slice none 0 0) chg0) = W1 at *; have h0 := HW.out.word (i := 0) rfl; rw [Nat.add_zero] at h0; have HX : Hid (WdS w (some ⟨b, o, none⟩) (verb :: nm :: ([] : List ByteArray)) (doneL 0 nm 0 (.slice none 0 0) (.slice none 0 0) chg0) W1) := HW; have hc0 := HW.out.cell (i := 0) rfl; have hf0 := HW.out.free (i := 0) (by omega)) | (first | (refine ld_act rfl _ rfl (w.heap.size + 1) rfl (doneL 0 nm 0 (.slice none 0 0) (.slice none 0 0) chg0) HX.out.ra rfl ?_) | (refine st_act rfl _ _ rfl w.heap.size rfl (doneL 0 nm 0 (.slice none 0 0) (.slice none 0 0) chg0) rfl rfl HX.out.rb (by simp [Value.oneCell']) ?_)))
    exact words_ret (x := ⟨0, nm, 0, [], [], chg0, lnk0⟩) HX.out (Nat.lt_succ_self _) (own_none9 _ _ _ _) (own_none9 _ _ _ _) ⟨fit0 (HS.out.1 nm (by simp)), ⟨fun _ h => by simp at h, Nat.zero_le _⟩, ⟨fun _ h => by simp at h, Nat.zero_le _⟩, nochg, nolnk⟩ (rd_short (by rw [hv]; decide) (by rw [hv]; decide)) rfl rfl
  | cons z r =>
    simp only [List.length_cons] at hm hcap ⊢
    have i0 : (0 : Int) < (r.length : Int) + 1 + 1 + 1 := by omega
    have i1 : (1 : Int) < (r.length : Int) + 1 + 1 + 1 := by omega
    have i2 : (2 : Int) < (r.length : Int) + 1 + 1 + 1 := by omega
    have i3 : ¬ ((r.length : Int) + 1 + 1 + 1 < 3) := by omega
    have i4 : (3 : Int) ≤ (r.length : Int) + 1 + 1 + 1 := by omega
    have hzs : z.size ≤ maxLen := fit0 (HS.out.1 z (by simp))
    go_enter Tryz.func38, Tryz.ntmps38
    go_wp2_with (refine st_act rfl _ _ rfl _ rfl (doneL 0 nm 0 (.slice none 0 0) (.slice none 0 0) chg0) rfl rfl hth (by simp [Value.oneCell']) ?_; generalize ((w.alloc (.cells zeros9.toArray 34)).alloc (.cells zeros9.toArray 34)).setCells (w.heap.size + 1) 0 (doneL 0 nm 0 (.slice none 0 0) (.slice none 0 0) chg0) = W1 at *; have h0 := HW.out.word (i := 0) rfl; rw [Nat.add_zero] at h0; have hc0 := HW.out.cell (i := 0) rfl; have hf0 := HW.out.free (i := 0) (by omega); have hz := HW.out.word (i := 2) rfl)
    have H2 := HW.out.set hbl 0 (.int .i64 6) (doneL 6 nm 0 (.slice none 0 0) (.slice none 0 0) chg0) rfl (by omega) rfl
    refine (spec_read_turn (some ⟨b, o, none⟩) cap verb nm z r _ H2.st HS.out.1 HS.out.2 (Or.inr (Or.inr (Or.inl hv)))).mono ?_
    rintro e w4 ⟨g, rfl, hg, hrd, hq⟩
    have H4 := H2.next hq
    have HG : Hid (chgSmall g ∧ ActRd (verb.data.toList :: nm.data.toList :: (z :: r).map (·.data.toList)) ⟨6, nm, 0, [], [], g, lnk0⟩) := ⟨hg, hrd⟩
    have hth5 := H4.there5
    have HX : Hid (WdS w (some ⟨b, o, none⟩) (verb :: nm :: z :: r) (doneL 6 nm 0 (.slice none 0 0) (.slice none 0 0) g) (w4.setCells (w.heap.size + 1) 5 [.int .i64 g.kd, .string g.nm, .string g.nw, .string g.c.nm, .int .i64 g.c.kd, .bool g.c.nd, .bool g.c.oc, .int .i64 g.c.k, .int .i64 g.c.n, .string g.c.s])) := WdS.sets hbl [.int .i64 g.kd, .string g.nm, .string g.nw, .string g.c.nm, .int .i64 g.c.kd, .bool g.c.nd, .bool g.c.oc, .int .i64 g.c.k, .int .i64 g.c.n, .string g.c.s] _ 5 _ H4 (Nat.le_of_ble_eq_true rfl) rfl
    clear hq hg hrd H2 HW h0 hc0 hf0 hz H4
    go_wp2_with (first | (refine st_chg rfl _ _ rfl (w.heap.size + 1) rfl [.int .i64 g.kd, .string g.nm, .string g.nw, .string g.c.nm, .int .i64 g.c.kd, .bool g.c.nd, .bool g.c.oc, .int .i64 g.c.k, .int .i64 g.c.n, .string g.c.s] rfl rfl hth5 (by simp [Value.oneCell']) ?_; generalize w4.setCells (w.heap.size + 1) 5 [.int .i64 g.kd, .string g.nm, .string g.nw, .string g.c.nm, .int .i64 g.c.kd, .bool g.c.nd, .bool g.c.oc, .int .i64 g.c.k, .int .i64 g.c.n, .string g.c.s] = w5 at *; have hra := HX.out.ra; have hrb := HX.out.rb) | (first | (refine ld_act rfl _ rfl (w.heap.size + 1) rfl (doneL 6 nm 0 (.slice none 0 0) (.slice none 0 0) g) hra rfl ?_) | (refine st_act rfl _ _ rfl w.heap.size rfl (doneL 6 nm 0 (.slice none 0 0) (.slice none 0 0) g) rfl rfl hrb (by simp [Value.oneCell']) ?_)))
    exact words_ret (x := ⟨6, nm, 0, [], [], g, lnk0⟩) HX.out (Nat.lt_succ_self _) (own_none9 _ _ _ _) (own_none9 _ _ _ _) ⟨fit0 (HS.out.1 nm (by simp)), ⟨fun _ h => by simp at h, Nat.zero_le _⟩, ⟨fun _ h => by simp at h, Nat.zero_le _⟩, chg_fit HG.out.1, nolnk⟩ HG.out.2 rfl rfl
set_option maxRecDepth 100000 in
set_option maxHeartbeats 4000000 in
theorem spec_words_kind (b o cap : Nat) (verb nm : ByteArray) (ws : List ByteArray) (w : World) (ha : StrsAt w (some ⟨b, o, none⟩) (verb :: nm :: ws)) (hbl : b < w.heap.size) (hcap : (verb :: nm :: ws).length ≤ cap) (hs : ∀ x ∈ verb :: nm :: ws, x.size ≤ 1048576) (hm : (verb :: nm :: ws).length ≤ 2000000) (hv : verb.toList = [107, 105, 110, 100]) :
    Calls Tryz.prog 38 #[.slice (some ⟨b, o, none⟩) (verb :: nm :: ws).length cap] w fun e w' => ∃ v, e = .returned v ∧ WordsRd w verb nm ws v w' := by
  have HW : Hid (WdS w (some ⟨b, o, none⟩) (verb :: nm :: ws) (doneL 0 nm 0 (.slice none 0 0) (.slice none 0 0) chg0) (((w.alloc (.cells zeros9.toArray 34)).alloc (.cells zeros9.toArray 34)).setCells (w.heap.size + 1) 0 (doneL 0 nm 0 (.slice none 0 0) (.slice none 0 0) chg0))) := wds_start w b o _ _ ha hbl rfl
  have hth : ((w.alloc (.cells zeros9.toArray 34)).alloc (.cells zeros9.toArray 34)).there (w.heap.size + 1) 0 19 := by
    have h := there_box (w.alloc (.cells zeros9.toArray 34)) zeros9 34 19 rfl
    rwa [size_alloc] at h
  have h1 := (by rcases ha with h | ⟨b', o', e, _, hr⟩; (cases h); (cases e; exact hr 1 nm rfl) : w.cell? ⟨b, o + 1, none⟩ = some (.string nm))
  have HS : Hid ((∀ x ∈ verb :: nm :: ws, x.size ≤ 1048576) ∧ (verb :: nm :: ws).length ≤ 2000000) := ⟨hs, hm⟩
  have v0 : (verb.toList == [116, 97, 98, 108, 101]) = false := by rw [hv]; rfl
  have v1 : (verb.toList == [112, 117, 116]) = false := by rw [hv]; rfl
  have v2 : (verb.toList == [115, 101, 116]) = false := by rw [hv]; rfl
  have v3 : (verb.toList == [111, 102, 102]) = false := by rw [hv]; rfl
  have v4 : (verb.toList == [97, 100, 100]) = false := by rw [hv]; rfl
  have v5 : (verb.toList == [100, 114, 111, 112]) = false := by rw [hv]; rfl
  have v6 : (verb.toList == [110, 97, 109, 101]) = false := by rw [hv]; rfl
  have v7 : (verb.toList == [107, 105, 110, 100]) = true := by rw [hv]; rfl
  have v8 : (verb.toList == [108, 105, 110, 107]) = false := by rw [hv]; rfl
  clear ha hs
  cases ws with
  | nil =>
    simp only [List.length_cons, List.length_nil] at hm hcap ⊢
    go_enter Tryz.func38, Tryz.ntmps38
    go_wp2_with (first | (refine st_act rfl _ _ rfl _ rfl (doneL 0 nm 0 (.slice none 0 0) (.slice none 0 0) chg0) rfl rfl hth (by simp [Value.oneCell']) ?_; generalize ((w.alloc (.cells zeros9.toArray 34)).alloc (.cells zeros9.toArray 34)).setCells (w.heap.size + 1) 0 (doneL 0 nm 0 (.slice none 0 0) (.slice none 0 0) chg0) = W1 at *; have h0 := HW.out.word (i := 0) rfl; rw [Nat.add_zero] at h0; have HX : Hid (WdS w (some ⟨b, o, none⟩) (verb :: nm :: ([] : List ByteArray)) (doneL 0 nm 0 (.slice none 0 0) (.slice none 0 0) chg0) W1) := HW; have hc0 := HW.out.cell (i := 0) rfl; have hf0 := HW.out.free (i := 0) (by omega)) | (first | (refine ld_act rfl _ rfl (w.heap.size + 1) rfl (doneL 0 nm 0 (.slice none 0 0) (.slice none 0 0) chg0) HX.out.ra rfl ?_) | (refine st_act rfl _ _ rfl w.heap.size rfl (doneL 0 nm 0 (.slice none 0 0) (.slice none 0 0) chg0) rfl rfl HX.out.rb (by simp [Value.oneCell']) ?_)))
    exact words_ret (x := ⟨0, nm, 0, [], [], chg0, lnk0⟩) HX.out (Nat.lt_succ_self _) (own_none9 _ _ _ _) (own_none9 _ _ _ _) ⟨fit0 (HS.out.1 nm (by simp)), ⟨fun _ h => by simp at h, Nat.zero_le _⟩, ⟨fun _ h => by simp at h, Nat.zero_le _⟩, nochg, nolnk⟩ (rd_short (by rw [hv]; decide) (by rw [hv]; decide)) rfl rfl
  | cons z r =>
    simp only [List.length_cons] at hm hcap ⊢
    have i0 : (0 : Int) < (r.length : Int) + 1 + 1 + 1 := by omega
    have i1 : (1 : Int) < (r.length : Int) + 1 + 1 + 1 := by omega
    have i2 : (2 : Int) < (r.length : Int) + 1 + 1 + 1 := by omega
    have i3 : ¬ ((r.length : Int) + 1 + 1 + 1 < 3) := by omega
    have i4 : (3 : Int) ≤ (r.length : Int) + 1 + 1 + 1 := by omega
    have hzs : z.size ≤ maxLen := fit0 (HS.out.1 z (by simp))
    go_enter Tryz.func38, Tryz.ntmps38
    go_wp2_with (refine st_act rfl _ _ rfl _ rfl (doneL 0 nm 0 (.slice none 0 0) (.slice none 0 0) chg0) rfl rfl hth (by simp [Value.oneCell']) ?_; generalize ((w.alloc (.cells zeros9.toArray 34)).alloc (.cells zeros9.toArray 34)).setCells (w.heap.size + 1) 0 (doneL 0 nm 0 (.slice none 0 0) (.slice none 0 0) chg0) = W1 at *; have h0 := HW.out.word (i := 0) rfl; rw [Nat.add_zero] at h0; have hc0 := HW.out.cell (i := 0) rfl; have hf0 := HW.out.free (i := 0) (by omega); have hz := HW.out.word (i := 2) rfl)
    have H2 := HW.out.set hbl 0 (.int .i64 6) (doneL 6 nm 0 (.slice none 0 0) (.slice none 0 0) chg0) rfl (by omega) rfl
    refine (spec_read_turn (some ⟨b, o, none⟩) cap verb nm z r _ H2.st HS.out.1 HS.out.2 (Or.inr (Or.inr (Or.inr hv)))).mono ?_
    rintro e w4 ⟨g, rfl, hg, hrd, hq⟩
    have H4 := H2.next hq
    have HG : Hid (chgSmall g ∧ ActRd (verb.data.toList :: nm.data.toList :: (z :: r).map (·.data.toList)) ⟨6, nm, 0, [], [], g, lnk0⟩) := ⟨hg, hrd⟩
    have hth5 := H4.there5
    have HX : Hid (WdS w (some ⟨b, o, none⟩) (verb :: nm :: z :: r) (doneL 6 nm 0 (.slice none 0 0) (.slice none 0 0) g) (w4.setCells (w.heap.size + 1) 5 [.int .i64 g.kd, .string g.nm, .string g.nw, .string g.c.nm, .int .i64 g.c.kd, .bool g.c.nd, .bool g.c.oc, .int .i64 g.c.k, .int .i64 g.c.n, .string g.c.s])) := WdS.sets hbl [.int .i64 g.kd, .string g.nm, .string g.nw, .string g.c.nm, .int .i64 g.c.kd, .bool g.c.nd, .bool g.c.oc, .int .i64 g.c.k, .int .i64 g.c.n, .string g.c.s] _ 5 _ H4 (Nat.le_of_ble_eq_true rfl) rfl
    clear hq hg hrd H2 HW h0 hc0 hf0 hz H4
    go_wp2_with (first | (refine st_chg rfl _ _ rfl (w.heap.size + 1) rfl [.int .i64 g.kd, .string g.nm, .string g.nw, .string g.c.nm, .int .i64 g.c.kd, .bool g.c.nd, .bool g.c.oc, .int .i64 g.c.k, .int .i64 g.c.n, .string g.c.s] rfl rfl hth5 (by simp [Value.oneCell']) ?_; generalize w4.setCells (w.heap.size + 1) 5 [.int .i64 g.kd, .string g.nm, .string g.nw, .string g.c.nm, .int .i64 g.c.kd, .bool g.c.nd, .bool g.c.oc, .int .i64 g.c.k, .int .i64 g.c.n, .string g.c.s] = w5 at *; have hra := HX.out.ra; have hrb := HX.out.rb) | (first | (refine ld_act rfl _ rfl (w.heap.size + 1) rfl (doneL 6 nm 0 (.slice none 0 0) (.slice none 0 0) g) hra rfl ?_) | (refine st_act rfl _ _ rfl w.heap.size rfl (doneL 6 nm 0 (.slice none 0 0) (.slice none 0 0) g) rfl rfl hrb (by simp [Value.oneCell']) ?_)))
    exact words_ret (x := ⟨6, nm, 0, [], [], g, lnk0⟩) HX.out (Nat.lt_succ_self _) (own_none9 _ _ _ _) (own_none9 _ _ _ _) ⟨fit0 (HS.out.1 nm (by simp)), ⟨fun _ h => by simp at h, Nat.zero_le _⟩, ⟨fun _ h => by simp at h, Nat.zero_le _⟩, chg_fit HG.out.1, nolnk⟩ HG.out.2 rfl rfl

end Go.Proofs.YtpcfebekkgfpjaaGreatDoor
