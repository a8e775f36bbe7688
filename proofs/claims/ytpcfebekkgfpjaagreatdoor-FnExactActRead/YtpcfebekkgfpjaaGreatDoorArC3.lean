/- The contract of impl.readDeed, over the seat's translation. -/
import Derived.Test.YtpcfebekkgfpjaaGreatDoorG18
import Derived.Laws.IdiomCopy
namespace Go.Proofs.YtpcfebekkgfpjaaGreatDoor
open Go.RowKit

/-- The first three words are copied over. -/
theorem copy_words (W0 : World) (Bk : Nat) (t : TypeId) (a : Option Addr) (cap : Nat) (ws : List ByteArray) (hB : W0.heap[Bk]? = some (.cells #[.string ⟨#[]⟩, .string ⟨#[]⟩, .string ⟨#[]⟩] t)) (ha : StrsAt W0 a ws) :
    ∃ (k : Nat) (W1 : World), (Builtin.copy_ #[50, 50] 3 #[.slice (some ⟨Bk, 0, none⟩) 3 3, .slice a ws.length cap]).run Tryz.prog W0 = .ok (.int .i64 k) W1 ∧
      W1.heap[Bk]? = some (.cells #[.string (wAt ws 0), .string (wAt ws 1), .string (wAt ws 2)] t) ∧ ∀ (C : Nat) (w : World), C ≤ Bk → Below C w W0 → Below C w W1 := by
  have hs : (Tryz.prog.info? 9).map (·.size) = some 1 := by kernel_rfl
  have hc := there_blk 3 (Nat.le_refl _) hB
  have key : ∀ (cs : List Value), cs.length = Nat.min ws.length 3 → (∀ v ∈ cs, v.oneCell' = true) → (∀ j v, cs[j]? = some v → ∀ d, a = some d → W0.cell? (d.add j) = some v) → 1 ≤ ws.length →
      (Builtin.copy_ #[50, 50] 3 #[.slice (some ⟨Bk, 0, none⟩) 3 3, .slice a ws.length cap]).run Tryz.prog W0 = .ok (goInt cs.length) (W0.setCells Bk 0 cs) := fun cs hl h1 hsrc h0 => by
    rcases ha with h | ⟨b, o, rfl, hlt, hr⟩
    · rw [h] at h0; simp at h0
    · have hle : cs.length ≤ 3 := by rw [hl]; exact Nat.min_le_right _ _
      exact run_copy_cells W0 _ _ _ 9 Bk 0 3 3 _ ws.length cap cs Tryz.underlying50 hs hl (fun j v hv => hsrc j v hv _ rfl) (fun j hj => (hc j (by omega)).1) (fun j hj => (hc j (by omega)).2) h1
  have src : ∀ (n : Nat) j v, ((ws.take n).map Value.string)[j]? = some v → ∀ d, a = some d → W0.cell? (d.add j) = some v := fun n j v hv d hd => by
    rcases ha with h | ⟨b, o, rfl, hlt, hr⟩
    · rw [h] at hv; simp at hv
    · cases hd
      rw [List.getElem?_map, Option.map_eq_some_iff] at hv
      obtain ⟨x, hx, rfl⟩ := hv
      rw [Addr.add_mid]
      exact hr j x (by
        obtain ⟨h1, h2⟩ := List.getElem?_eq_some_iff.1 hx
        rw [← h2, List.getElem_take]
        exact List.getElem?_eq_getElem _)
  match ws, key, src with
  | [], _, _ => exact ⟨0, W0, run_copy_none W0 _ _ _ 9 _ _ 3 3 0 cap Tryz.underlying50 hs rfl, hB, fun _ _ _ h => h⟩
  | [x], key, src =>
    exact ⟨1, _, key [.string x] rfl (by simp [Value.oneCell']) (src 3) (by simp), set_blk 0 _ hB, fun _ _ h1 h2 => h2.setCell h1 _⟩
  | [x, y], key, src =>
    exact ⟨2, _, key [.string x, .string y] rfl (by simp [Value.oneCell']) (src 3) (by simp), set_blk 1 _ (set_blk 0 _ hB), fun _ _ h1 h2 => (h2.setCell h1 _).setCell h1 _⟩
  | x :: y :: z :: r, key, src =>
    refine ⟨3, _, key [.string x, .string y, .string z] ?_ (by simp [Value.oneCell']) (src 3) (by simp), set_blk 2 _ (set_blk 1 _ (set_blk 0 _ hB)), fun _ _ h1 h2 => ((h2.setCell h1 _).setCell h1 _).setCell h1 _⟩
    simp only [List.length_cons, List.length_nil]
    exact (Nat.min_eq_right (by omega)).symm

/-- What lies there while what is done is read: three words, all words, the table; and W lies over w. -/
abbrev DeedS (w : World) (m : Int) (a : Option Addr) (ws : List ByteArray) (W : World) : Prop :=
  W.cell? ⟨w.heap.size, 0, none⟩ = some (.string (wAt ws 0)) ∧ W.cell? ⟨w.heap.size, 1, none⟩ = some (.string (wAt ws 1)) ∧ W.cell? ⟨w.heap.size, 2, none⟩ = some (.string (wAt ws 2)) ∧ Hid (w.heap.size < W.heap.size ∧ Below w.heap.size w W ∧ StrsAt W a ws ∧ Tb W ∧ Mx m W)
theorem deeds_next {w : World} {m : Int} {a : Option Addr} {ws : List ByteArray} {W W' : World} (h : DeedS w m a ws W) (hb : Below W.heap.size W W') : DeedS w m a ws W' := by
  obtain ⟨h0, h1, h2, hlt, hB, hS, hT, hM⟩ := h
  have hc := fun x => (bcell hb).1 w.heap.size x hlt
  exact ⟨by rw [hc]; exact h0, by rw [hc]; exact h1, by rw [hc]; exact h2, Nat.lt_of_lt_of_le hlt hb.size, hB.trans (hb.mono hB.size), hS.keep hb, tb_next hT hb, hM.next hb⟩
theorem deeds_drew {w : World} {m : Int} {a : Option Addr} {ws : List ByteArray} {W : World} (h : DeedS w m a ws W) : DeedS w m a ws W.drew := deeds_next h (Below.refl _ _).drew

/-- The deed of x, as a value of its own kind; its lists are the call's own. -/
def DeedV (w W : World) (x : AAct) (v : Value) : Prop :=
  Below w.heap.size w W ∧ (
    (∃ nm L u, x = ⟨1, nm, 0, [], L, chg0, lnk0⟩ ∧ v = .iface 83 (.agg #[.string nm, u]) ∧ OwnK w u L W) ∨
    (∃ l, x = ⟨2, ⟨#[]⟩, 0, [], [], chg0, l⟩ ∧ v = .iface 85 (.agg #[.string l.fr, .string l.co, .string l.tt, .int .i64 l.hw])) ∨
    (∃ nm L u, x = ⟨3, nm, 0, L, [], chg0, lnk0⟩ ∧ v = .iface 87 (.agg #[.string nm, u]) ∧ OwnT w u L W) ∨
    (∃ nm id L u, x = ⟨4, nm, id, L, [], chg0, lnk0⟩ ∧ v = .iface 89 (.agg #[.string nm, .int .i64 id, u]) ∧ OwnT w u L W) ∨
    (∃ nm id, x = ⟨5, nm, id, [], [], chg0, lnk0⟩ ∧ v = .iface 91 (.agg #[.string nm, .int .i64 id])) ∨
    (∃ nm c, x = ⟨6, nm, 0, [], [], ⟨1, ⟨#[]⟩, ⟨#[]⟩, c⟩, lnk0⟩ ∧ v = .iface 105 (.agg #[.string nm, .string c.nm, .int .i64 c.kd, .bool c.nd, .bool c.oc, .int .i64 c.k, .int .i64 c.n, .string c.s])) ∨
    (∃ nm co, x = ⟨6, nm, 0, [], [], ⟨2, co, ⟨#[]⟩, colK 0⟩, lnk0⟩ ∧ v = .iface 107 (.agg #[.string nm, .string co])) ∨
    (∃ nm co tt, x = ⟨6, nm, 0, [], [], ⟨3, co, tt, colK 0⟩, lnk0⟩ ∧ v = .iface 109 (.agg #[.string nm, .string co, .string tt])) ∨
    (∃ nm co k, x = ⟨6, nm, 0, [], [], ⟨4, co, ⟨#[]⟩, colK k⟩, lnk0⟩ ∧ v = .iface 111 (.agg #[.string nm, .string co, .int .i64 k])))
/-- What readDeed gives. -/
def DeedRd (w : World) (verb nm : ByteArray) (ws : List ByteArray) (v : Value) (W : World) : Prop :=
  (v = .nilIface ∧ Below w.heap.size w W ∧ ∀ y : AAct, implDeed y = true → actW y ≠ verb.data.toList :: nm.data.toList :: ws.map (·.data.toList)) ∨
  ∃ x, DeedV w W x v ∧ x.fit ∧ ActRd (verb.data.toList :: nm.data.toList :: ws.map (·.data.toList)) x

theorem ownk_up {w W1 : World} {u : Value} {L : List ACol} {W : World} (h : OwnK W1 u L W) (hb : Below w.heap.size w W1) : OwnK w u L W := by
  refine ⟨⟨h.1.1, ?_⟩, hb.trans (h.2.mono hb.size)⟩
  have hz := hb.size
  rcases h.1.2 with h2 | ⟨g, cap, cur, a, b, c⟩
  · exact Or.inl h2
  · exact Or.inr ⟨g, cap, cur, a, by omega, c⟩
theorem ownt_up {w W1 : World} {u : Value} {L : List ASet} {W : World} (h : OwnT W1 u L W) (hb : Below w.heap.size w W1) : OwnT w u L W := by
  refine ⟨⟨h.1.1, ?_⟩, hb.trans (h.2.mono hb.size)⟩
  have hz := hb.size
  rcases h.1.2 with h2 | ⟨g, cap, cur, a, b, c⟩
  · exact Or.inl h2
  · exact Or.inr ⟨g, cap, cur, a, by omega, c⟩
theorem rdl_fit {ws : List ByteArray} {L : List ACol} {m : Nat} (hs : ∀ x ∈ ws, x.size ≤ m) (h : RdL ws L) : ∀ c ∈ L, c.nm.size ≤ m ∧ c.s.size ≤ m := fun c hc => by
  obtain ⟨i, hi⟩ := List.getElem?_of_mem hc
  have hl : i < ws.length := by rw [← h.1]; exact (List.getElem?_eq_some_iff.1 hi).1
  have h1 := (h.2 i _ c (List.getElem?_eq_getElem hl) hi).1
  have h2 := hs _ (List.getElem_mem hl)
  simp at h1
  omega
theorem set_fit {ws : List ByteArray} {m : Nat} (hs : ∀ x ∈ ws, x.size ≤ m) : ∀ c ∈ ws.map fun x => setR x.data.toList, c.nm.size ≤ m ∧ c.s.size ≤ m := fun c hc => by
  obtain ⟨x, hx, rfl⟩ := List.mem_map.1 hc
  have h1 := setR_le x.data.toList
  have h2 := hs _ hx
  simp at h1
  omega
/-- Not longer than what can be read. -/
theorem deed_fit {nm : ByteArray} {kd id : Int} {S : List ASet} {L : List ACol} {g : AChg} {l : ALnk} (h1 : nm.size ≤ 1048576) (h2 : ∀ c ∈ S, c.nm.size ≤ 1048576 ∧ c.s.size ≤ 1048576) (h3 : S.length ≤ 2000000) (h4 : ∀ c ∈ L, c.nm.size ≤ 1048576 ∧ c.s.size ≤ 1048576) (h5 : L.length ≤ 2000000)
    (h6 : g.nm.size ≤ 1048576 ∧ g.nw.size ≤ 1048576 ∧ g.c.nm.size ≤ 1048576 ∧ g.c.s.size ≤ 1048576) (h7 : l.fr.size ≤ 1048576 ∧ l.co.size ≤ 1048576 ∧ l.tt.size ≤ 1048576) : (⟨kd, nm, id, S, L, g, l⟩ : AAct).fit := by
  refine ⟨?_, ⟨fun c hc => ?_, ?_⟩, ⟨fun c hc => ?_, ?_⟩, ?_, ?_⟩
  · show nm.size ≤ maxLen
    unfold maxLen
    omega
  · have := h2 c hc
    unfold ASet.fit maxLen
    omega
  · show S.length ≤ maxLen
    unfold maxLen
    omega
  · have := h4 c hc
    unfold ACol.fit maxLen
    omega
  · show L.length ≤ maxLen
    unfold maxLen
    omega
  · show g.fit
    unfold AChg.fit ACol.fit maxLen
    omega
  · show l.fit
    unfold ALnk.fit maxLen
    omega
theorem nofit0 : chg0.nm.size ≤ 1048576 ∧ chg0.nw.size ≤ 1048576 ∧ chg0.c.nm.size ≤ 1048576 ∧ chg0.c.s.size ≤ 1048576 := by decide
theorem nofit1 : lnk0.fr.size ≤ 1048576 ∧ lnk0.co.size ≤ 1048576 ∧ lnk0.tt.size ≤ 1048576 := by decide

theorem own_slice {W : World} {base : Nat} {e : TypeId} {size : Nat} {v : Value} {n : Nat} {xs : List Value} (h : W.ownsRow base e size v n xs) : ∃ a n c, v = .slice a n c := by
  rcases h.2 with ⟨h2, _⟩ | ⟨g, cap, cur, a, _⟩
  · exact ⟨_, _, _, h2⟩
  · exact ⟨_, _, _, a⟩
theorem colrd_fit {x : ByteArray} {c : ACol} (hx : x.size ≤ 1048576) (h : ColRd x.data.toList c) : (⟨#[]⟩ : ByteArray).size ≤ 1048576 ∧ (⟨#[]⟩ : ByteArray).size ≤ 1048576 ∧ c.nm.size ≤ 1048576 ∧ c.s.size ≤ 1048576 := by
  have h1 := h.1
  simp at h1
  exact ⟨by decide, by decide, by omega, by omega⟩

theorem sets_none {w : World} {m : Int} {a : Option Addr} {ws : List ByteArray} {W : World} (a' : Option Addr) (cap : Nat) (D : DeedS w m a ws W) :
    Calls Tryz.prog 55 #[.slice a' 0 cap, .func (.func 56) #[] #[]] W fun e w' => ∃ v n c, e = .returned (.slice v n c) ∧ Hid (OwnT w (.slice v n c) [] w') ∧ Below W.heap.size W w' := by
  have HH := D.2.2.2.out
  refine (each_read_sets m a' cap [] W (Or.inl rfl) (fun y hy => by simp at hy) (by simp) HH.2.2.2.1 HH.2.2.2.2).mono ?_
  rintro e w' ⟨v, rfl, hO⟩
  obtain ⟨ad, n, c, rfl⟩ := own_slice hO.1
  exact ⟨ad, n, c, rfl, ownt_up hO HH.2.1, hO.2⟩
theorem sets_here {w : World} {m : Int} {b o : Nat} {x : ByteArray} {r : List ByteArray} {W : World} (cap : Nat) (D : DeedS w m (some ⟨b, o, none⟩) (x :: r) W) (hS : ∀ W, StrsAt W (some ⟨b, o, none⟩) (x :: r) → StrsAt W (some ⟨b, o + 1, none⟩) r) (hs : ∀ y ∈ x :: r, y.size ≤ 1048576) (hm : r.length + 1 ≤ 2000000) :
    Calls Tryz.prog 55 #[.slice (some ⟨b, o + 1, none⟩) r.length cap, .func (.func 56) #[] #[]] W fun e w' => ∃ v n c, e = .returned (.slice v n c) ∧ Hid (OwnT w (.slice v n c) (r.map fun x => setR x.data.toList) w') ∧ Below W.heap.size W w' := by
  have HH := D.2.2.2.out
  refine (each_read_sets m _ cap r W (hS _ HH.2.2.1) (fun y hy => hs y (by simp [hy])) (by omega) HH.2.2.2.1 HH.2.2.2.2).mono ?_
  rintro e w' ⟨v, rfl, hO⟩
  obtain ⟨ad, n, c, rfl⟩ := own_slice hO.1
  exact ⟨ad, n, c, rfl, ownt_up hO HH.2.1, hO.2⟩

set_option maxRecDepth 100000 in
set_option maxHeartbeats 4000000 in
theorem read_deed_set (m : Int) (verb nm : ByteArray) (a : Option Addr) (cap : Nat) (ws : List ByteArray) (w W1 : World) (kc : Nat) (hcap : ws.length ≤ cap) (hm : ws.length ≤ 2000000)
    (hcp : (Builtin.copy_ #[50, 50] 3 #[.slice (some ⟨w.heap.size, 0, none⟩) 3 3, .slice a ws.length cap]).run Tryz.prog (w.alloc (.cells #[.string ⟨#[]⟩, .string ⟨#[]⟩, .string ⟨#[]⟩] 96)) = .ok (.int .i64 kc) W1)
    (H1 : DeedS w m a ws W1) (HS0 : (∀ x ∈ ws, x.size ≤ 1048576) ∧ nm.size ≤ 1048576 ∧ ∀ i, (wAt ws i).size ≤ 1048576) (hv : verb.toList = [115, 101, 116]) :
    Calls Tryz.prog 20 #[.string verb, .string nm, .slice a ws.length cap] w fun e w' => ∃ v, e = .returned v ∧ DeedRd w verb nm ws v w' := by
  have HS : Hid ((∀ x ∈ ws, x.size ≤ 1048576) ∧ nm.size ≤ 1048576 ∧ ∀ i, (wAt ws i).size ≤ 1048576) := HS0
  clear HS0
  have v4 : (verb.toList == [115, 101, 116]) = true := beq_iff_eq.2 hv
  have v1 : (verb.toList == [116, 97, 98, 108, 101]) = false := by rw [hv]; rfl
  have v2 : (verb.toList == [108, 105, 110, 107]) = false := by rw [hv]; rfl
  have v3 : (verb.toList == [112, 117, 116]) = false := by rw [hv]; rfl
  clear hv
  cases ws with
  | nil =>
    have hmn : min (1 : Int) 0 = 0 := by decide
    simp only [List.length_nil] at hcp ⊢
    have hl2 : (0 : Int) ≤ cap := by omega
    by_cases hc0 : cap = 0
    · subst hc0
      go_enter Tryz.func20, Tryz.ntmps20
      obtain ⟨y0, y1, y2, HH⟩ := id H1
      go_wp2_with fail
      clear y0 y1 y2 HH hcp
      go_region_held3 (fun W => DeedS w m a [] W) (first | assumption | exact deeds_drew (by assumption)) (first
        | (go_at_call 57; refine (read_id _ _ (by unfold maxLen; have := HS.out.2.2 0; omega) (by assumption : DeedS w m _ _ _).2.2.2.out.2.2.2.1).mono ?_; rintro e w' ⟨rfl, hb⟩; have hN := deeds_next (by assumption) hb; clear hb)
        | (go_at_call 55; refine (sets_none _ _ (by assumption)).mono ?_; rintro e w' ⟨v, n, c, rfl, hO, hb⟩; have hN := deeds_next (by assumption) hb; clear hb))
      all_goals
        go_wp2_with fail
        go_ret
        exact ⟨_, rfl, Or.inr ⟨_, ⟨hO.out.2, Or.inr (Or.inr (Or.inr (Or.inl ⟨nm, _, _, _, rfl, rfl, hO.out⟩)))⟩, deed_fit HS.out.2.1 (fun _ h => by simp at h) (by simp) (fun _ h => by simp at h) (by simp) nofit0 nofit1, rd_set (beq_iff_eq.1 v4)⟩⟩
    · have hc0' : ¬ (cap : Int) = 0 := by omega
      go_enter Tryz.func20, Tryz.ntmps20
      obtain ⟨y0, y1, y2, HH⟩ := id H1
      go_wp2_with fail
      clear y0 y1 y2 HH hcp
      go_region_held3 (fun W => DeedS w m a [] W) (first | assumption | exact deeds_drew (by assumption)) (first
        | (go_at_call 57; refine (read_id _ _ (by unfold maxLen; have := HS.out.2.2 0; omega) (by assumption : DeedS w m _ _ _).2.2.2.out.2.2.2.1).mono ?_; rintro e w' ⟨rfl, hb⟩; have hN := deeds_next (by assumption) hb; clear hb)
        | (go_at_call 55; refine (sets_none _ _ (by assumption)).mono ?_; rintro e w' ⟨v, n, c, rfl, hO, hb⟩; have hN := deeds_next (by assumption) hb; clear hb))
      all_goals
        go_wp2_with fail
        go_ret
        exact ⟨_, rfl, Or.inr ⟨_, ⟨hO.out.2, Or.inr (Or.inr (Or.inr (Or.inl ⟨nm, _, _, _, rfl, rfl, hO.out⟩)))⟩, deed_fit HS.out.2.1 (fun _ h => by simp at h) (by simp) (fun _ h => by simp at h) (by simp) nofit0 nofit1, rd_set (beq_iff_eq.1 v4)⟩⟩
  | cons x r =>
    obtain ⟨b, o, rfl, hS⟩ : ∃ b o, a = some ⟨b, o, none⟩ ∧ ∀ W, StrsAt W (some ⟨b, o, none⟩) (x :: r) → StrsAt W (some ⟨b, o + 1, none⟩) r := by
      rcases H1.2.2.2.out.2.2.1 with h | ⟨b, o, h, _⟩
      · cases h
      · refine ⟨b, o, h, fun W hW => ?_⟩
        rcases hW with h | ⟨b', o', h', hl, hr⟩
        · cases h
        · cases h'
          refine Or.inr ⟨b, o + 1, rfl, hl, fun i y hy => ?_⟩
          have := hr (i + 1) y hy
          rwa [show o + (i + 1) = o + 1 + i by omega] at this
    have hmn : min (1 : Int) ((r.length : Int) + 1) = 1 := by omega
    simp only [List.length_cons] at hcap hm hcp ⊢
    have hl2 : (r.length : Int) + 1 ≤ cap := by omega
    have hl3 : (1 : Int) ≤ (r.length : Int) + 1 := by omega
    by_cases hc1 : cap = 1
    · subst hc1
      have hr0 : r = [] := List.eq_nil_of_length_eq_zero (by omega)
      subst hr0
      simp only [List.length_nil, Nat.zero_add] at hcp ⊢
      go_enter Tryz.func20, Tryz.ntmps20
      obtain ⟨y0, y1, y2, HH⟩ := id H1
      go_wp2_with fail
      clear y0 y1 y2 HH hcp
      go_region_held3 (fun W => DeedS w m (some ⟨b, o, none⟩) [x] W) (first | assumption | exact deeds_drew (by assumption)) (first
        | (go_at_call 57; refine (read_id _ _ (by unfold maxLen; have := HS.out.2.2 0; omega) (by assumption : DeedS w m _ _ _).2.2.2.out.2.2.2.1).mono ?_; rintro e w' ⟨rfl, hb⟩; have hN := deeds_next (by assumption) hb; clear hb)
        | (go_at_call 55; refine (sets_none _ _ (by assumption)).mono ?_; rintro e w' ⟨v, n, c, rfl, hO, hb⟩; have hN := deeds_next (by assumption) hb; clear hb))
      all_goals
        go_wp2_with fail
        go_ret
        exact ⟨_, rfl, Or.inr ⟨_, ⟨hO.out.2, Or.inr (Or.inr (Or.inr (Or.inl ⟨nm, _, _, _, rfl, rfl, hO.out⟩)))⟩, deed_fit HS.out.2.1 (fun _ h => by simp at h) (by simp) (fun _ h => by simp at h) (by simp) nofit0 nofit1, rd_set (beq_iff_eq.1 v4)⟩⟩
    · have hc1' : ¬ (cap : Int) = 1 := by omega
      go_enter Tryz.func20, Tryz.ntmps20
      obtain ⟨y0, y1, y2, HH⟩ := id H1
      go_wp2_with fail
      clear y0 y1 y2 HH hcp
      go_region_held3 (fun W => DeedS w m (some ⟨b, o, none⟩) (x :: r) W) (first | assumption | exact deeds_drew (by assumption)) (first
        | (go_at_call 57; refine (read_id _ _ (by unfold maxLen; have := HS.out.2.2 0; omega) (by assumption : DeedS w m _ _ _).2.2.2.out.2.2.2.1).mono ?_; rintro e w' ⟨rfl, hb⟩; have hN := deeds_next (by assumption) hb; clear hb)
        | (go_at_call 55; refine (sets_here _ (by assumption) hS HS.out.1 hm).mono ?_; rintro e w' ⟨v, n, c, rfl, hO, hb⟩; have hN := deeds_next (by assumption) hb; clear hb))
      all_goals
        go_wp2_with fail
        go_ret
        exact ⟨_, rfl, Or.inr ⟨_, ⟨hO.out.2, Or.inr (Or.inr (Or.inr (Or.inl ⟨nm, _, _, _, rfl, rfl, hO.out⟩)))⟩, deed_fit HS.out.2.1 (set_fit fun y hy => HS.out.1 y (by simp [hy])) (by rw [List.length_map]; omega) (fun _ h => by simp at h) (by simp) nofit0 nofit1, rd_set (beq_iff_eq.1 v4)⟩⟩

set_option maxRecDepth 100000 in
set_option maxHeartbeats 4000000 in
theorem read_deed (m : Int) (verb nm : ByteArray) (a : Option Addr) (cap : Nat) (ws : List ByteArray) (w : World) (ha : StrsAt w a ws) (hcap : ws.length ≤ cap) (hnm : nm.size ≤ 1048576) (hs : ∀ x ∈ ws, x.size ≤ 1048576) (hm : ws.length ≤ 2000000) (htab : Tb w) (hM : Mx m w) :
    Calls Tryz.prog 20 #[.string verb, .string nm, .slice a ws.length cap] w fun e w' => ∃ v, e = .returned v ∧ DeedRd w verb nm ws v w' := by
  have hA : Below w.heap.size w (w.alloc (.cells #[.string ⟨#[]⟩, .string ⟨#[]⟩, .string ⟨#[]⟩] 96)) := (Below.refl _ _).alloc (Nat.le_refl _) _
  obtain ⟨kc, W1, hcp, hbk, hbl⟩ := copy_words (w.alloc (.cells #[.string ⟨#[]⟩, .string ⟨#[]⟩, .string ⟨#[]⟩] 96)) w.heap.size 96 a cap ws (blk_new w _) (ha.keep hA)
  have hB1 := hbl _ _ (Nat.le_refl _) hA
  have H1 : DeedS w m a ws W1 := ⟨cell_blk (o := 0) hbk rfl, cell_blk (o := 1) hbk rfl, cell_blk (o := 2) hbk rfl, blk_lt hbk, hB1, ha.keep hB1, tb_next htab hB1, hM.next hB1⟩
  have HS : Hid ((∀ x ∈ ws, x.size ≤ 1048576) ∧ nm.size ≤ 1048576 ∧ ∀ i, (wAt ws i).size ≤ 1048576) := ⟨hs, hnm, fun i => wAt_le hs i⟩
  clear hbl hA hbk hB1 ha hs hnm htab hM
  cases v1 : (verb.toList == [116, 97, 98, 108, 101])
  case true =>
    go_enter Tryz.func20, Tryz.ntmps20
    obtain ⟨y0, y1, y2, HH⟩ := id H1
    go_wp2_with fail
    refine (each_read_cols m a cap ws W1 HH.out.2.2.1 HS.out.1 hm HH.out.2.2.2.1 HH.out.2.2.2.2).mono ?_
    rintro e w2 ⟨u, L, rfl, hO, hR⟩
    have HO : Hid (OwnK w u L w2 ∧ RdL ws L) := ⟨ownk_up hO HH.out.2.1, hR⟩
    obtain ⟨ad, n, cp, rfl⟩ := own_slice hO.1
    clear hO hR y0 y1 y2 hcp HH H1
    go_wp2_with fail
    go_ret
    exact ⟨_, rfl, Or.inr ⟨_, ⟨HO.out.1.2, Or.inl ⟨nm, L, _, rfl, rfl, HO.out.1⟩⟩, deed_fit (HS.out.2.1) (fun _ h => by simp at h) (by simp) (rdl_fit HS.out.1 HO.out.2) (by rw [HO.out.2.1]; exact hm) nofit0 nofit1, rd_table HO.out.2 (beq_iff_eq.1 v1)⟩⟩
  cases v2 : (verb.toList == [108, 105, 110, 107])
  case true =>
    go_enter Tryz.func20, Tryz.ntmps20
    obtain ⟨y0, y1, y2, HH⟩ := id H1
    go_wp2_with fail
    clear y0 y1 y2 HH hcp
    go_region_held3 (fun W => DeedS w m a ws W) (first | assumption | exact deeds_drew (by assumption)) (first | (go_at_call 54; refine (read_how _ _).mono ?_; rintro e w' ⟨k, rfl, rfl, hk⟩; have HK : Hid (∀ q, howOk q = true → (wAt ws 2).data.toList = howB q → k = q) := hk; clear hk))
    go_wp2_with fail
    go_ret
    have hE := ‹DeedS w m a ws (World.drew _)›
    exact ⟨_, rfl, Or.inr ⟨_, ⟨hE.2.2.2.out.2.1, Or.inr (Or.inl ⟨⟨nm, wAt ws 0, wAt ws 1, k⟩, rfl, rfl⟩)⟩, deed_fit (by decide) (fun _ h => by simp at h) (by simp) (fun _ h => by simp at h) (by simp) nofit0 ⟨HS.out.2.1, HS.out.2.2 0, HS.out.2.2 1⟩, rd_link HK.out (beq_iff_eq.1 v2)⟩⟩
  cases v3 : (verb.toList == [112, 117, 116])
  case true =>
    go_enter Tryz.func20, Tryz.ntmps20
    obtain ⟨y0, y1, y2, HH⟩ := id H1
    go_wp2_with fail
    refine (each_read_sets m a cap ws W1 HH.out.2.2.1 HS.out.1 hm HH.out.2.2.2.1 HH.out.2.2.2.2).mono ?_
    rintro e w2 ⟨u, rfl, hO⟩
    have HO : Hid (OwnT w u (ws.map fun x => setR x.data.toList) w2) := ownt_up hO HH.out.2.1
    obtain ⟨ad, n, cp, rfl⟩ := own_slice hO.1
    clear hO y0 y1 y2 hcp HH H1
    go_wp2_with fail
    go_ret
    exact ⟨_, rfl, Or.inr ⟨_, ⟨HO.out.2, Or.inr (Or.inr (Or.inl ⟨nm, _, _, rfl, rfl, HO.out⟩))⟩, deed_fit (HS.out.2.1) (set_fit HS.out.1) (by simpa using hm) (fun _ h => by simp at h) (by simp) nofit0 nofit1, rd_put (beq_iff_eq.1 v3)⟩⟩
  cases v4 : (verb.toList == [115, 101, 116])
  case true =>
    exact read_deed_set m verb nm a cap ws w W1 kc hcap hm hcp H1 HS.out (beq_iff_eq.1 v4)
  cases v5 : (verb.toList == [111, 102, 102])
  case true =>
    go_enter Tryz.func20, Tryz.ntmps20
    obtain ⟨y0, y1, y2, HH⟩ := id H1
    go_wp2_with fail
    refine (read_id _ _ (by unfold maxLen; have := HS.out.2.2 0; omega) HH.out.2.2.2.1).mono ?_
    rintro e w2 ⟨rfl, hq⟩
    have HO : Hid (Below w.heap.size w w2) := HH.out.2.1.trans (hq.mono HH.out.2.1.size)
    clear hq y0 y1 y2 HH hcp
    go_wp2_with fail
    go_ret
    exact ⟨_, rfl, Or.inr ⟨_, ⟨HO.out, Or.inr (Or.inr (Or.inr (Or.inr (Or.inl ⟨nm, _, rfl, rfl⟩))))⟩, deed_fit (HS.out.2.1) (fun _ h => by simp at h) (by simp) (fun _ h => by simp at h) (by simp) nofit0 nofit1, rd_off (beq_iff_eq.1 v5)⟩⟩
  cases v6 : (verb.toList == [97, 100, 100])
  case true =>
    go_enter Tryz.func20, Tryz.ntmps20
    obtain ⟨y0, y1, y2, HH⟩ := id H1
    go_wp2_with fail
    refine (read_col m _ _ (HS.out.2.2 0) HH.out.2.2.2.1 HH.out.2.2.2.2).mono ?_
    rintro e w2 ⟨c, rfl, hc, hq⟩
    have HO : Hid (Below w.heap.size w w2) := HH.out.2.1.trans (hq.mono HH.out.2.1.size)
    have HC : Hid (ColRd (wAt ws 0).data.toList c) := hc
    clear hc
    clear hq y0 y1 y2 HH hcp
    go_wp2_with fail
    go_ret
    exact ⟨_, rfl, Or.inr ⟨_, ⟨HO.out, Or.inr (Or.inr (Or.inr (Or.inr (Or.inr (Or.inl ⟨nm, c, rfl, rfl⟩)))))⟩, deed_fit (HS.out.2.1) (fun _ h => by simp at h) (by simp) (fun _ h => by simp at h) (by simp) (colrd_fit (HS.out.2.2 0) HC.out) nofit1, rd_add HC.out (beq_iff_eq.1 v6)⟩⟩
  cases v7 : (verb.toList == [100, 114, 111, 112])
  case true =>
    go_enter Tryz.func20, Tryz.ntmps20
    obtain ⟨y0, y1, y2, HH⟩ := id H1
    go_wp2_with fail
    go_ret
    exact ⟨_, rfl, Or.inr ⟨_, ⟨HH.out.2.1, Or.inr (Or.inr (Or.inr (Or.inr (Or.inr (Or.inr (Or.inl ⟨nm, _, rfl, rfl⟩))))))⟩, deed_fit (HS.out.2.1) (fun _ h => by simp at h) (by simp) (fun _ h => by simp at h) (by simp) ⟨HS.out.2.2 0, Nat.zero_le _, Nat.zero_le _, Nat.zero_le _⟩ nofit1, rd_drop (beq_iff_eq.1 v7)⟩⟩
  cases v8 : (verb.toList == [110, 97, 109, 101])
  case true =>
    go_enter Tryz.func20, Tryz.ntmps20
    obtain ⟨y0, y1, y2, HH⟩ := id H1
    go_wp2_with fail
    go_ret
    exact ⟨_, rfl, Or.inr ⟨_, ⟨HH.out.2.1, Or.inr (Or.inr (Or.inr (Or.inr (Or.inr (Or.inr (Or.inr (Or.inl ⟨nm, _, _, rfl, rfl⟩)))))))⟩, deed_fit (HS.out.2.1) (fun _ h => by simp at h) (by simp) (fun _ h => by simp at h) (by simp) ⟨HS.out.2.2 0, HS.out.2.2 1, Nat.zero_le _, Nat.zero_le _⟩ nofit1, rd_name (beq_iff_eq.1 v8)⟩⟩
  cases v9 : (verb.toList == [107, 105, 110, 100])
  case true =>
    go_enter Tryz.func20, Tryz.ntmps20
    obtain ⟨y0, y1, y2, HH⟩ := id H1
    go_wp2_with fail
    clear y0 y1 y2 HH hcp
    go_region_held3 (fun W => DeedS w m a ws W) (first | assumption | exact deeds_drew (by assumption)) (first | (go_at_call 58; refine (read_kind _ _).mono ?_; rintro e w' ⟨k, rfl, rfl, hk⟩; have HK : Hid (∀ q, kindOk q = true → (wAt ws 1).data.toList = kindB q → k = q) := hk; clear hk))
    go_wp2_with fail
    go_ret
    have hE := ‹DeedS w m a ws (World.drew _)›
    exact ⟨_, rfl, Or.inr ⟨_, ⟨hE.2.2.2.out.2.1, Or.inr (Or.inr (Or.inr (Or.inr (Or.inr (Or.inr (Or.inr (Or.inr (⟨nm, _, _, rfl, rfl⟩))))))))⟩, deed_fit (HS.out.2.1) (fun _ h => by simp at h) (by simp) (fun _ h => by simp at h) (by simp) ⟨HS.out.2.2 0, Nat.zero_le _, Nat.zero_le _, Nat.zero_le _⟩ nofit1, rd_kind HK.out (beq_iff_eq.1 v9)⟩⟩
  go_enter Tryz.func20, Tryz.ntmps20
  obtain ⟨y0, y1, y2, HH⟩ := id H1
  go_wp2_with fail
  go_ret
  exact ⟨_, rfl, Or.inl ⟨rfl, HH.out.2.1, rd_none v1 v2 v3 v4 v5 v6 v7 v8 v9 _⟩⟩

end Go.Proofs.YtpcfebekkgfpjaaGreatDoor
