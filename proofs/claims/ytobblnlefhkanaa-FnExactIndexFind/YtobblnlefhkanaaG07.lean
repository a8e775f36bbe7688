/- Entries appended to a row of the call's own, as a law for the walk. Over the seat's translation. -/
import Derived.Test.YtobblnlefhkanaaG06
import Derived.Test.YtobblnlefhkanaaG02
import Derived.Test.YtobblnlefhkanaaG03
import Derived.Lib.SliceRun
import Derived.Laws.IdiomCopy
import Derived.Deep.RegionHeldLaw
namespace Go.Proofs.Ytobblnlefhkanaa
open Go.RowKit

theorem OwnE.made (base : Nat) (W : World) (h : base ≤ W.heap.size) : OwnE base (.slice (some ⟨W.heap.size, 0, none⟩) 0 0) [] (W.alloc (.cells #[] 38)) :=
  World.ownsRow_made W #[] 0 h (Nat.zero_le _) rfl

theorem append_ents {ops : Array Oper} {rest : List Oper} {o : Oper} {act : Act} {w : World} {Q : Exit → Act → World → Prop} (hgd : o.guard = none) (s x : Operand)
    (ho : o.op = .call { callee := .builtin .append, args := #[s, x], argTypes := #[25, 25] })
    (base : Nat) (v : Value) (M : List AEnt) (hs : act.eval s = v) (hown : OwnE base v M w) (ad : Option Addr) (m c : Nat) (N : List AEnt) (hx : act.eval x = .slice ad m c) (hmN : m = N.length)
    (hN : EntsAt w ad N) (h0 : ad = none → c = 0) (hl : M.length + N.length ≤ 2097152) (hbase : base ≤ w.heap.size)
    (h : ∀ a' n' c' w', OwnE base (.slice a' n' c') (M ++ N) w' → Below base w w' → (n' = M.length + N.length) → (M.length + N.length ≤ c' ∨ a' = none) → wpList Try.prog ops Q rest (act.put o.dst (.slice a' n' c')) w') :
    wpList Try.prog ops Q (o :: rest) act w := by
  obtain ⟨i0, hi, hz, hsz, hby⟩ := Try.info38
  subst hmN
  have hown0 : w.ownsRow base 38 4 v M.length (flat M) := hown
  cases ad with
  | none =>
    have hN0 : N = [] := by
      rcases hN with h | ⟨b, o, e, _⟩
      · exact h
      · cases e
    subst hN0
    have h0' := h0 rfl
    subst h0'
    refine wpList_append_own_none hgd s x 25 ho base 38 i0 4 Try.underlying25 hi v M.length (flat M) hs hown0 hx ?_
    rcases hown.form with ⟨hv, hM⟩ | ⟨b, cap, hv, _, _, hc, _⟩
    · subst hv
      exact h _ _ _ w (by rw [List.append_nil]; exact hown) (Below.refl _ _) (by simp [hM]) (Or.inr rfl)
    · subst hv
      exact h _ _ _ w (by rw [List.append_nil]; exact hown) (Below.refl _ _) (by simp) (Or.inl (by simpa using hc))
  | some A =>
    have hby0 : (M.length + N.length) * i0.bytes ≤ 140737488355328 := by
      have : (M.length + N.length) * i0.bytes ≤ 2097152 * 128 := Nat.mul_le_mul hl hby
      omega
    have hnews : ∀ j u, (flat N)[j]? = some u → w.cell? (A.add j) = some u := by
      by_cases he : N = []
      · subst he
        intro j u hu
        simp [flat] at hu
      · have hN' := hN
        rcases hN with h | ⟨b, o, e, _⟩
        · exact absurd h he
        · cases e
          exact flat_cells hN'
    refine wpList_append_own_at _ hgd s x 25 ho base 38 i0 _ 4 i0.bytes Try.underlying25 hi hz hsz rfl rfl (by decide) v M.length (flat M) hs hown0 A N.length c (flat N) hx (flat_len N) hnews (flat_one N) (by unfold maxLen; omega) hby0 hbase ?_
    intro v' w' h1 hg hn _
    have h2 : OwnE base v' (M ++ N) w' := by
      unfold OwnE
      rw [flat_append, List.length_append]
      exact h1
    have hg : Below base w w' := (Below.refl _ _).grown hg hbase (fun k hk => (World.ownsRow.lt hown0 k hk).1)
    rcases h2.form with ⟨hv, hM⟩ | ⟨b, cap, hv, _, _, hc, _⟩
    · subst hv
      exact h _ _ _ w' h2 hg (by rw [← List.length_append, hM]; rfl) (Or.inr rfl)
    · subst hv
      exact h _ _ _ w' h2 hg (by simp) (Or.inl (by simpa using hc))

/-- The same, with what has turned told. -/
theorem append_rows {ops : Array Oper} {rest : List Oper} {o : Oper} {act : Act} {w : World} {Q : Exit → Act → World → Prop} (hgd : o.guard = none) (s x : Operand)
    (ho : o.op = .call { callee := .builtin .append, args := #[s, x], argTypes := #[25, 25] })
    (base : Nat) (v : Value) (M : List AEnt) (hs : act.eval s = v) (hown : OwnE base v M w) (ad : Option Addr) (m c : Nat) (N : List AEnt) (hx : act.eval x = .slice ad m c) (hmN : m = N.length)
    (hN : EntsAt w ad N) (h0 : ad = none → c = 0) (hl : M.length + N.length ≤ 2097152) (hbase : base ≤ w.heap.size)
    (h : ∀ a' n' c' w', OwnE base (.slice a' n' c') (M ++ N) w' → w.grownBy w' v.ownBlock → (n' = M.length + N.length) → (M.length + N.length ≤ c' ∨ a' = none) → wpList Try.prog ops Q rest (act.put o.dst (.slice a' n' c')) w') :
    wpList Try.prog ops Q (o :: rest) act w := by
  obtain ⟨i0, hi, hz, hsz, hby⟩ := Try.info38
  subst hmN
  have hown0 : w.ownsRow base 38 4 v M.length (flat M) := hown
  cases ad with
  | none =>
    have hN0 : N = [] := by
      rcases hN with h | ⟨b, o, e, _⟩
      · exact h
      · cases e
    subst hN0
    have h0' := h0 rfl
    subst h0'
    refine wpList_append_own_none hgd s x 25 ho base 38 i0 4 Try.underlying25 hi v M.length (flat M) hs hown0 hx ?_
    rcases hown.form with ⟨hv, hM⟩ | ⟨b, cap, hv, _, _, hc, _⟩
    · subst hv
      exact h _ _ _ w (by rw [List.append_nil]; exact hown) ⟨rfl, rfl, rfl, Nat.le_refl _, fun _ _ _ => rfl⟩ (by simp [hM]) (Or.inr rfl)
    · subst hv
      exact h _ _ _ w (by rw [List.append_nil]; exact hown) ⟨rfl, rfl, rfl, Nat.le_refl _, fun _ _ _ => rfl⟩ (by simp) (Or.inl (by simpa using hc))
  | some A =>
    have hby0 : (M.length + N.length) * i0.bytes ≤ 140737488355328 := by
      have : (M.length + N.length) * i0.bytes ≤ 2097152 * 128 := Nat.mul_le_mul hl hby
      omega
    have hnews : ∀ j u, (flat N)[j]? = some u → w.cell? (A.add j) = some u := by
      by_cases he : N = []
      · subst he
        intro j u hu
        simp [flat] at hu
      · have hN' := hN
        rcases hN with h | ⟨b, o, e, _⟩
        · exact absurd h he
        · cases e
          exact flat_cells hN'
    refine wpList_append_own_at _ hgd s x 25 ho base 38 i0 _ 4 i0.bytes Try.underlying25 hi hz hsz rfl rfl (by decide) v M.length (flat M) hs hown0 A N.length c (flat N) hx (flat_len N) hnews (flat_one N) (by unfold maxLen; omega) hby0 hbase ?_
    intro v' w' h1 hg hn _
    have h2 : OwnE base v' (M ++ N) w' := by
      unfold OwnE
      rw [flat_append, List.length_append]
      exact h1
    rcases h2.form with ⟨hv, hM⟩ | ⟨b, cap, hv, _, _, hc, _⟩
    · subst hv
      exact h _ _ _ w' h2 hg (by rw [← List.length_append, hM]; rfl) (Or.inr rfl)
    · subst hv
      exact h _ _ _ w' h2 hg (by simp) (Or.inl (by simpa using hc))

/-- The same as a step of a region that draws its order. -/
theorem step_ents {ops : Array Oper} {o : Oper} {act : Act} {w : World} {K : Act → World → Prop} {Q : Exit → Act → World → Prop} {E : Prop} (d : Option Tmp) (hd : o.dst = d) (hgd : o.guard = none) (s x : Operand)
    (ho : o.op = .call { callee := .builtin .append, args := #[s, x], argTypes := #[25, 25] })
    (base : Nat) (v : Value) (M : List AEnt) (hs : act.eval s = v) (hown : OwnE base v M w) (ad : Option Addr) (m c : Nat) (N : List AEnt) (hx : act.eval x = .slice ad m c) (hmN : m = N.length)
    (hN : EntsAt w ad N) (h0 : ad = none → c = 0) (hl : M.length + N.length ≤ 2097152) (hbase : base ≤ w.heap.size)
    (h : ∀ a' n' c' w', OwnE base (.slice a' n' c') (M ++ N) w' → Below base w w' → (n' = M.length + N.length) → (M.length + N.length ≤ c' ∨ a' = none) → K (act.put d (.slice a' n' c')) w') :
    if Region.wanted o (yielded ops act.tmps) = true then Oper.wp Try.prog o act w K Q else E := by
  subst hd
  have hw : Region.wanted o (yielded ops act.tmps) = true := by simp [Region.wanted, hgd]
  rw [if_pos hw]
  obtain ⟨i0, hi, hz, hsz, hby⟩ := Try.info38
  subst hmN
  have hown0 : w.ownsRow base 38 4 v M.length (flat M) := hown
  cases ad with
  | none =>
    have hN0 : N = [] := by
      rcases hN with h | ⟨b, o, e, _⟩
      · exact h
      · cases e
    subst hN0
    have h0' := h0 rfl
    subst h0'
    have hr := run_append_owned_none (P := Try.prog) (w := w) base 25 o.type 38 i0 4 Try.underlying25 hi v M.length (flat M) hown0
    have hgo : K (act.put o.dst v) w → Oper.wp Try.prog o act w K Q := fun hK => by
      unfold Oper.wp
      simp [execOp, ho, resolve, invoke, builtin, hs, hx, hr, Result.andThen]
      exact hK
    refine hgo ?_
    clear hr hgo
    rcases hown.form with ⟨hv, hM⟩ | ⟨b, cap, hv, _, _, hc, _⟩
    · subst hv
      exact h _ _ _ w (by rw [List.append_nil]; exact hown) (Below.refl _ _) (by simp [hM]) (Or.inr rfl)
    · subst hv
      exact h _ _ _ w (by rw [List.append_nil]; exact hown) (Below.refl _ _) (by simp) (Or.inl (by simpa using hc))
  | some A =>
    have hby0 : (M.length + N.length) * i0.bytes ≤ 140737488355328 := by
      have : (M.length + N.length) * i0.bytes ≤ 2097152 * 128 := Nat.mul_le_mul hl hby
      omega
    have hnews : ∀ j u, (flat N)[j]? = some u → w.cell? (A.add j) = some u := by
      by_cases he : N = []
      · subst he
        intro j u hu
        simp [flat] at hu
      · have hN' := hN
        rcases hN with h | ⟨b, o, e, _⟩
        · exact absurd h he
        · cases e
          exact flat_cells hN'
    obtain ⟨v', w', hr, h1, hg, hn, -⟩ := run_append_own_at (P := Try.prog) w base 25 o.type 38 i0 _ 4 i0.bytes Try.underlying25 hi hz hsz rfl rfl (by decide) v M.length (flat M) hown0 A N.length c (flat N) (flat_len N) hnews (flat_one N) (by unfold maxLen; omega) hby0 hbase
    have hgo : K (act.put o.dst v') w' → Oper.wp Try.prog o act w K Q := fun hK => by
      unfold Oper.wp
      simp [execOp, ho, resolve, invoke, builtin, hs, hx, hr, Result.andThen]
      exact hK
    refine hgo ?_
    clear hr hgo
    have h2 : OwnE base v' (M ++ N) w' := by
      unfold OwnE
      rw [flat_append, List.length_append]
      exact h1
    have hg : Below base w w' := (Below.refl _ _).grown hg hbase (fun k hk => (World.ownsRow.lt hown0 k hk).1)
    rcases h2.form with ⟨hv, hM⟩ | ⟨b, cap, hv, _, _, hc, _⟩
    · subst hv
      exact h _ _ _ w' h2 hg (by rw [← List.length_append, hM]; rfl) (Or.inr rfl)
    · subst hv
      exact h _ _ _ w' h2 hg (by simp) (Or.inl (by simpa using hc))

end Go.Proofs.Ytobblnlefhkanaa

/- Entries that lie in a world, carried on. -/
namespace Go.Proofs.Ytobblnlefhkanaa
open Go.RowKit

/-- The entries lie at a in W, and W lies over w. -/
abbrev LiesE (w : World) (a : Option Addr) (L : List AEnt) (W : World) : Prop := EntsAt W a L ∧ Below w.heap.size w W
theorem liese_next {w : World} {a : Option Addr} {L : List AEnt} {W W' : World} (h : LiesE w a L W) (hb : Below W.heap.size W W') : LiesE w a L W' := ⟨h.1.keep hb, h.2.trans (hb.mono h.2.size)⟩
theorem liese_drew {w : World} {a : Option Addr} {L : List AEnt} {W : World} (h : LiesE w a L W) : LiesE w a L W.drew := liese_next h (Below.refl _ _).drew

theorem ents_far {C : Nat} {W W' : World} {b o : Nat} {L : List AEnt} (h : EntsAt W (some ⟨b, o, none⟩) L) (hb : b < C) (hq : Below C W W') : EntsAt W' (some ⟨b, o, none⟩) L := by
  rcases h with h | ⟨b', o', e, hlt, hr⟩
  · exact Or.inl h
  · cases e
    exact Or.inr ⟨b, o, rfl, Nat.lt_of_lt_of_le hlt hq.size, fun i c hc j v hv => by rw [hq.cell (p := ⟨b, _, none⟩) hb]; exact hr i c hc j v hv⟩
theorem liese_far {w : World} {b o : Nat} {L : List AEnt} {W W' : World} (h : LiesE w (some ⟨b, o, none⟩) L W) (hb : b < w.heap.size) (hq : Below w.heap.size W W') : LiesE w (some ⟨b, o, none⟩) L W' := ⟨ents_far h.1 hb hq, h.2.trans hq⟩
theorem ents_take {W : World} {b o : Nat} {L : List AEnt} (h : EntsAt W (some ⟨b, o, none⟩) L) (k : Nat) : EntsAt W (some ⟨b, o, none⟩) (L.take k) := by
  rcases h with h | ⟨b', o', e, hlt, hr⟩
  · subst h; exact Or.inl (by simp)
  · cases e
    exact Or.inr ⟨b, o, rfl, hlt, fun i c hc => hr i c (by
      rw [List.getElem?_take] at hc
      by_cases hi : i < k
      · simpa [hi] using hc
      · simp [hi] at hc)⟩
theorem ents_drop {W : World} {b o : Nat} {L : List AEnt} (h : EntsAt W (some ⟨b, o, none⟩) L) (k : Nat) : EntsAt W (some ⟨b, o + k * 4, none⟩) (L.drop k) := by
  rcases h with h | ⟨b', o', e, hlt, hr⟩
  · subst h; exact Or.inl (by simp)
  · cases e
    refine Or.inr ⟨b, o + k * 4, rfl, hlt, fun i c hc => ?_⟩
    have := hr (k + i) c (by rw [List.getElem?_drop] at hc; exact hc)
    rwa [show o + (k + i) * 4 = o + k * 4 + i * 4 by omega] at this

end Go.Proofs.Ytobblnlefhkanaa

/- The contracts of slices.Clone and slices.Delete at entries, over the seat's translation. -/
namespace Go.Proofs.Ytobblnlefhkanaa
open Go.RowKit

/-- The value is a slice of the entries L, which came at base or behind, and may be written. -/
def RowE (base : Nat) (v : Value) (L : List AEnt) (W : World) : Prop :=
  (v = .slice none 0 0 ∧ L = []) ∨ ∃ b cap, v = .slice (some ⟨b, 0, none⟩) L.length cap ∧ base ≤ b ∧ b < W.heap.size ∧ L.length ≤ cap ∧ EntsAt W (some ⟨b, 0, none⟩) L ∧ W.there b 0 (L.length * 4)
theorem OwnE.row {base : Nat} {v : Value} {L : List AEnt} {W : World} (h : OwnE base v L W) : RowE base v L W := by
  rcases h.form with h | ⟨b, cap, hv, h1, h2, h3, h4, h5, h6⟩
  · exact Or.inl h
  · exact Or.inr ⟨b, cap, hv, h1, h2, h3, h5, fun j hj => h6 j (by omega)⟩
theorem RowE.next {base : Nat} {v : Value} {L : List AEnt} {W W' : World} (h : RowE base v L W) (hb : Below W.heap.size W W') : RowE base v L W' := by
  rcases h with h | ⟨b, cap, hv, h1, h2, h3, h4, h5⟩
  · exact Or.inl h
  · exact Or.inr ⟨b, cap, hv, h1, Nat.lt_of_lt_of_le h2 hb.size, h3, h4.keep hb, there_next h5 h2 hb⟩
theorem RowE.mono {base base' : Nat} {v : Value} {L : List AEnt} {W : World} (h : RowE base v L W) (hb : base' ≤ base) : RowE base' v L W := by
  rcases h with h | ⟨b, cap, hv, h1, r⟩
  · exact Or.inl h
  · exact Or.inr ⟨b, cap, hv, Nat.le_trans hb h1, r⟩
theorem RowE.slice {base : Nat} {v : Value} {L : List AEnt} {W : World} (h : RowE base v L W) : ∃ a cap, v = .slice a L.length cap ∧ (a = none → cap = 0) ∧ L.length ≤ cap ∧ EntsAt W a L := by
  rcases h with ⟨rfl, rfl⟩ | ⟨b, cap, rfl, _, _, hc, he, _⟩
  · exact ⟨none, 0, rfl, fun _ => rfl, Nat.le_refl _, Or.inl rfl⟩
  · exact ⟨_, cap, rfl, (fun h => by cases h), hc, he⟩

set_option maxRecDepth 100000 in
set_option maxHeartbeats 1000000 in
theorem clone_entries (b o cap : Nat) (L : List AEnt) (w : World) (hL : EntsAt w (some ⟨b, o, none⟩) L) (hl : L.length ≤ 1048576) (h1 : 1 ≤ L.length) :
    Calls Try.prog 63 #[.slice (some ⟨b, o, none⟩) L.length cap] w fun e w' => ∃ g c, e = .returned (.slice (some ⟨g, 0, none⟩) L.length c) ∧ OwnE w.heap.size (.slice (some ⟨g, 0, none⟩) L.length c) L w' ∧ Below w.heap.size w w' := by
  have hq : ∀ wx, (binOp .eql 25 (.slice (some ⟨b, o, none⟩) L.length cap) (.slice none 0 0)).run Try.prog wx = .ok (.bool false) wx := fun wx => Lib.run_eql_slice_nil wx 25 38 _ _ _ _ _ Try.underlying25
  have hL2 : EntsAt (w.alloc (.cells #[] 38)) (some ⟨b, o, none⟩) L := hL.keep ((Below.refl _ _).alloc (Nat.le_refl _) _)
  go_enter Try.func63, Try.ntmps63
  go_wp2_with (at_builtin; refine append_ents rfl _ _ rfl w.heap.size _ [] rfl (OwnE.made w.heap.size w (Nat.le_refl _)) (some ⟨b, o, none⟩) _ cap L rfl rfl hL2 (fun h => by cases h) (by simp; omega) (by simp) ?_; intro a3 n3 c3 w3 ho hg hn hc; clear hL2)
  have hn' : n3 = L.length := by simpa using hn
  subst hn'
  have hB3 : Hid (Below w.heap.size w w3) := ((Below.refl _ _).alloc (Nat.le_refl _) _).trans hg
  have ho3 : OwnE w.heap.size (.slice a3 L.length c3) L w3 := ho
  clear ho hg hn hc
  rcases ho3.form with ⟨hv, hM⟩ | ⟨g, cap', hv, -⟩
  · rw [hM] at h1; simp at h1
  · cases hv
    go_ret
    exact ⟨_, _, rfl, ho3, hB3.out⟩

theorem OwnE.take {base g cap : Nat} {L : List AEnt} {W : World} (h : OwnE base (.slice (some ⟨g, 0, none⟩) L.length cap) L W) {i : Nat} (hi : i ≤ L.length) : W.ownsRow base 38 4 (.slice (some ⟨g, 0, none⟩) i cap) i (flat (L.take i)) := by
  have e : flat (L.take i) = (flat L).take (i * 4) := by
    have h1 : flat L = flat (L.take i) ++ flat (L.drop i) := by rw [← flat_append, List.take_append_drop]
    have h2 : (flat (L.take i)).length = i * 4 := by rw [flat_len, List.length_take, Nat.min_eq_left hi]
    rw [h1, ← h2, List.take_left']
    rfl
  refine ⟨by rw [flat_len, List.length_take, Nat.min_eq_left hi], ?_⟩
  rcases h.2 with ⟨h, _⟩ | ⟨g', cap', cur, hv, hg, hh, hn, hcm, hcs, ht⟩
  · cases h
  · cases hv
    exact Or.inr ⟨g, cap, cur, rfl, hg, hh, by omega, hcm, hcs, by rw [e, ← ht, List.take_take, Nat.min_eq_left (by omega)]⟩

theorem step_fits {ops : Array Oper} {o : Oper} {act : Act} {w : World} {K : Act → World → Prop} {Q : Exit → Act → World → Prop} {E : Prop} (d : Option Tmp) (hd : o.dst = d) (hgd : o.guard = none) (s x : Operand)
    (ho : o.op = .call { callee := .builtin .append, args := #[s, x], argTypes := #[25, 25] })
    (base g cap : Nat) (L : List AEnt) (i : Nat) (hs : act.eval s = .slice (some ⟨g, 0, none⟩) i cap) (hown : OwnE base (.slice (some ⟨g, 0, none⟩) L.length cap) L w) (hi : i ≤ L.length)
    (A : Addr) (m c : Nat) (N : List AEnt) (hx : act.eval x = .slice (some A) m c) (hmN : m = N.length) (hN : EntsAt w (some A) N) (hroom : i + N.length ≤ cap) (r : Nat) (hr0 : i + m = r)
    (h : ∀ w', OwnE base (.slice (some ⟨g, 0, none⟩) r cap) (L.take i ++ N) w' → w.grownBy w' (some g) → K (act.put d (.slice (some ⟨g, 0, none⟩) r cap)) w') :
    if Region.wanted o (yielded ops act.tmps) = true then Oper.wp Try.prog o act w K Q else E := by
  subst hd
  have hw : Region.wanted o (yielded ops act.tmps) = true := by simp [Region.wanted, hgd]
  rw [if_pos hw]
  obtain ⟨i0, hi0, hz, hsz, hby⟩ := Try.info38
  subst hr0
  subst hmN
  have hnews : ∀ j u, (flat N)[j]? = some u → w.cell? (A.add j) = some u := by
    by_cases he : N = []
    · subst he
      intro j u hu
      simp [flat] at hu
    · have hN' := hN
      rcases hN with h | ⟨b, o, e, _⟩
      · exact absurd h he
      · cases e
        exact flat_cells hN'
  obtain ⟨w', hr, h1, h2⟩ := run_append_fits (P := Try.prog) w base 25 o.type 38 i0 4 Try.underlying25 hi0 hsz g i cap (flat (L.take i)) (hown.take hi) A N.length c (flat N) (flat_len N) hnews (flat_one N) hroom
  have h3 : OwnE base (.slice (some ⟨g, 0, none⟩) (i + N.length) cap) (L.take i ++ N) w' := by
    unfold OwnE
    rw [flat_append, List.length_append, List.length_take, Nat.min_eq_left hi]
    exact h1
  unfold Oper.wp
  simp [execOp, ho, resolve, invoke, builtin, hs, hx, hr, Result.andThen]
  exact h w' h3 h2

/-- 'clear' of one entry. -/
theorem run_clear_one (w : World) (ty : TypeId) (g o c : Nat) (ht : w.there g o 4) :
    (Builtin.clear_ #[25] ty #[.slice (some ⟨g, o, none⟩) 1 c]).run Try.prog w = .ok (.tuple #[]) (w.setCells g o [.int .i64 0, .int .i64 0, .string ⟨#[]⟩, .int .i64 0]) := by
  obtain ⟨i0, hi0, hz, hsz, hby⟩ := Try.info38
  have hv : (zeroValue 38).run Try.prog w = .ok (.agg #[.int .i64 0, .int .i64 0, .string ⟨#[]⟩, .int .i64 0]) w := by simp [zeroValue, typeInfo, hi0, hz]
  have hzc : (Builtin.zeroCells (Value.agg #[.int .i64 0, .int .i64 0, .string ⟨#[]⟩, .int .i64 0]).cells 1).toList = [.int .i64 0, .int .i64 0, .string ⟨#[]⟩, .int .i64 0] := by
    simp [Builtin.zeroCells, Value.cells, List.range_succ]
  have hst := run_storeCells_cells (P := Try.prog) g o [.int .i64 0, .int .i64 0, .string ⟨#[]⟩, .int .i64 0] 0 w (fun j hj => (ht j hj).1) (fun j hj => (ht j hj).2) (by simp; exact ⟨rfl, rfl, rfl⟩)
  simp only [Nat.add_zero] at hst
  simp [Builtin.clear_, run_underlying Try.underlying25, hv, hzc, hst]

end Go.Proofs.Ytobblnlefhkanaa
