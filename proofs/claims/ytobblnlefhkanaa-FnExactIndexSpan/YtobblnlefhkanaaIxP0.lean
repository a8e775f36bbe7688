/- Entries appended to a row of the call's own, as a law for the walk. Over the seat's translation. -/
import Derived.Test.YtobblnlefhkanaaIxF2
namespace Go.Proofs.Ytobblnlefhkanaa
open Go.RowKit

theorem OwnE.made (base : Nat) (W : World) (h : base ≤ W.heap.size) : OwnE base (.slice (some ⟨W.heap.size, 0, none⟩) 0 0) [] (W.alloc (.cells #[] 38)) :=
  World.ownsRow_made W #[] 0 h (Nat.zero_le _) rfl

theorem append_ents {ops : Array Oper} {rest : List Oper} {o : Oper} {act : Act} {w : World} {Q : Exit → Act → World → Prop} (hgd : o.guard = none) (s x : Operand)
    (ho : o.op = .call { callee := .builtin .append, args := #[s, x], argTypes := #[25, 25] })
    (base : Nat) (v : Value) (M : List AEnt) (hs : act.eval s = v) (hown : OwnE base v M w) (ad : Option Addr) (m c : Nat) (N : List AEnt) (hx : act.eval x = .slice ad m c) (hmN : m = N.length)
    (hN : EntsAt w ad N) (h0 : ad = none → c = 0) (hl : M.length + N.length ≤ 2097152) (hbase : base ≤ w.heap.size)
    (h : ∀ a' n' c' w', OwnE base (.slice a' n' c') (M ++ N) w' → Below base w w' → (n' = M.length + N.length) → (M.length + N.length ≤ c' ∨ a' = none) → wpList Try.prog ops Q rest (act.put o.dst (.slice a' n' c')) w') :
    wpList Try.prog ops Q (o :: rest) act w := by
  obtain ⟨i0, hi, hz, hsz, hby⟩ := Try.info38
  subst hmN
  have hown0 : w.ownsRow base 38 4 v M.length (flat M) := hown
  cases ad with
  | none =>
    have hN0 : N = [] := by
      rcases hN with h | ⟨b, o, e, _⟩
      · exact h
      · cases e
    subst hN0
    have h0' := h0 rfl
    subst h0'
    refine wpList_append_own_none hgd s x 25 ho base 38 i0 4 Try.underlying25 hi v M.length (flat M) hs hown0 hx ?_
    rcases hown.form with ⟨hv, hM⟩ | ⟨b, cap, hv, _, _, hc, _⟩
    · subst hv
      exact h _ _ _ w (by rw [List.append_nil]; exact hown) (Below.refl _ _) (by simp [hM]) (Or.inr rfl)
    · subst hv
      exact h _ _ _ w (by rw [List.append_nil]; exact hown) (Below.refl _ _) (by simp) (Or.inl (by simpa using hc))
  | some A =>
    have hby0 : (M.length + N.length) * i0.bytes ≤ 140737488355328 := by
      have : (M.length + N.length) * i0.bytes ≤ 2097152 * 128 := Nat.mul_le_mul hl hby
      omega
    have hnews : ∀ j u, (flat N)[j]? = some u → w.cell? (A.add j) = some u := by
      by_cases he : N = []
      · subst he
        intro j u hu
        simp [flat] at hu
      · have hN' := hN
        rcases hN with h | ⟨b, o, e, _⟩
        · exact absurd h he
        · cases e
          exact flat_cells hN'
    refine wpList_append_own_at _ hgd s x 25 ho base 38 i0 _ 4 i0.bytes Try.underlying25 hi hz hsz rfl rfl (by decide) v M.length (flat M) hs hown0 A N.length c (flat N) hx (flat_len N) hnews (flat_one N) (by unfold maxLen; omega) hby0 hbase ?_
    intro v' w' h1 hg hn _
    have h2 : OwnE base v' (M ++ N) w' := by
      unfold OwnE
      rw [flat_append, List.length_append]
      exact h1
    have hg : Below base w w' := (Below.refl _ _).grown hg hbase (fun k hk => (World.ownsRow.lt hown0 k hk).1)
    rcases h2.form with ⟨hv, hM⟩ | ⟨b, cap, hv, _, _, hc, _⟩
    · subst hv
      exact h _ _ _ w' h2 hg (by rw [← List.length_append, hM]; rfl) (Or.inr rfl)
    · subst hv
      exact h _ _ _ w' h2 hg (by simp) (Or.inl (by simpa using hc))

/-- The same, with what has turned told. -/
theorem append_rows {ops : Array Oper} {rest : List Oper} {o : Oper} {act : Act} {w : World} {Q : Exit → Act → World → Prop} (hgd : o.guard = none) (s x : Operand)
    (ho : o.op = .call { callee := .builtin .append, args := #[s, x], argTypes := #[25, 25] })
    (base : Nat) (v : Value) (M : List AEnt) (hs : act.eval s = v) (hown : OwnE base v M w) (ad : Option Addr) (m c : Nat) (N : List AEnt) (hx : act.eval x = .slice ad m c) (hmN : m = N.length)
    (hN : EntsAt w ad N) (h0 : ad = none → c = 0) (hl : M.length + N.length ≤ 2097152) (hbase : base ≤ w.heap.size)
    (h : ∀ a' n' c' w', OwnE base (.slice a' n' c') (M ++ N) w' → w.grownBy w' v.ownBlock → (n' = M.length + N.length) → (M.length + N.length ≤ c' ∨ a' = none) → wpList Try.prog ops Q rest (act.put o.dst (.slice a' n' c')) w') :
    wpList Try.prog ops Q (o :: rest) act w := by
  obtain ⟨i0, hi, hz, hsz, hby⟩ := Try.info38
  subst hmN
  have hown0 : w.ownsRow base 38 4 v M.length (flat M) := hown
  cases ad with
  | none =>
    have hN0 : N = [] := by
      rcases hN with h | ⟨b, o, e, _⟩
      · exact h
      · cases e
    subst hN0
    have h0' := h0 rfl
    subst h0'
    refine wpList_append_own_none hgd s x 25 ho base 38 i0 4 Try.underlying25 hi v M.length (flat M) hs hown0 hx ?_
    rcases hown.form with ⟨hv, hM⟩ | ⟨b, cap, hv, _, _, hc, _⟩
    · subst hv
      exact h _ _ _ w (by rw [List.append_nil]; exact hown) ⟨rfl, rfl, rfl, Nat.le_refl _, fun _ _ _ => rfl⟩ (by simp [hM]) (Or.inr rfl)
    · subst hv
      exact h _ _ _ w (by rw [List.append_nil]; exact hown) ⟨rfl, rfl, rfl, Nat.le_refl _, fun _ _ _ => rfl⟩ (by simp) (Or.inl (by simpa using hc))
  | some A =>
    have hby0 : (M.length + N.length) * i0.bytes ≤ 140737488355328 := by
      have : (M.length + N.length) * i0.bytes ≤ 2097152 * 128 := Nat.mul_le_mul hl hby
      omega
    have hnews : ∀ j u, (flat N)[j]? = some u → w.cell? (A.add j) = some u := by
      by_cases he : N = []
      · subst he
        intro j u hu
        simp [flat] at hu
      · have hN' := hN
        rcases hN with h | ⟨b, o, e, _⟩
        · exact absurd h he
        · cases e
          exact flat_cells hN'
    refine wpList_append_own_at _ hgd s x 25 ho base 38 i0 _ 4 i0.bytes Try.underlying25 hi hz hsz rfl rfl (by decide) v M.length (flat M) hs hown0 A N.length c (flat N) hx (flat_len N) hnews (flat_one N) (by unfold maxLen; omega) hby0 hbase ?_
    intro v' w' h1 hg hn _
    have h2 : OwnE base v' (M ++ N) w' := by
      unfold OwnE
      rw [flat_append, List.length_append]
      exact h1
    rcases h2.form with ⟨hv, hM⟩ | ⟨b, cap, hv, _, _, hc, _⟩
    · subst hv
      exact h _ _ _ w' h2 hg (by rw [← List.length_append, hM]; rfl) (Or.inr rfl)
    · subst hv
      exact h _ _ _ w' h2 hg (by simp) (Or.inl (by simpa using hc))

/-- The same as a step of a region that draws its order. -/
theorem step_ents {ops : Array Oper} {o : Oper} {act : Act} {w : World} {K : Act → World → Prop} {Q : Exit → Act → World → Prop} {E : Prop} (d : Option Tmp) (hd : o.dst = d) (hgd : o.guard = none) (s x : Operand)
    (ho : o.op = .call { callee := .builtin .append, args := #[s, x], argTypes := #[25, 25] })
    (base : Nat) (v : Value) (M : List AEnt) (hs : act.eval s = v) (hown : OwnE base v M w) (ad : Option Addr) (m c : Nat) (N : List AEnt) (hx : act.eval x = .slice ad m c) (hmN : m = N.length)
    (hN : EntsAt w ad N) (h0 : ad = none → c = 0) (hl : M.length + N.length ≤ 2097152) (hbase : base ≤ w.heap.size)
    (h : ∀ a' n' c' w', OwnE base (.slice a' n' c') (M ++ N) w' → Below base w w' → (n' = M.length + N.length) → (M.length + N.length ≤ c' ∨ a' = none) → K (act.put d (.slice a' n' c')) w') :
    if Region.wanted o (yielded ops act.tmps) = true then Oper.wp Try.prog o act w K Q else E := by
  subst hd
  have hw : Region.wanted o (yielded ops act.tmps) = true := by simp [Region.wanted, hgd]
  rw [if_pos hw]
  obtain ⟨i0, hi, hz, hsz, hby⟩ := Try.info38
  subst hmN
  have hown0 : w.ownsRow base 38 4 v M.length (flat M) := hown
  cases ad with
  | none =>
    have hN0 : N = [] := by
      rcases hN with h | ⟨b, o, e, _⟩
      · exact h
      · cases e
    subst hN0
    have h0' := h0 rfl
    subst h0'
    have hr := run_append_owned_none (P := Try.prog) (w := w) base 25 o.type 38 i0 4 Try.underlying25 hi v M.length (flat M) hown0
    have hgo : K (act.put o.dst v) w → Oper.wp Try.prog o act w K Q := fun hK => by
      unfold Oper.wp
      simp [execOp, ho, resolve, invoke, builtin, hs, hx, hr, Result.andThen]
      exact hK
    refine hgo ?_
    clear hr hgo
    rcases hown.form with ⟨hv, hM⟩ | ⟨b, cap, hv, _, _, hc, _⟩
    · subst hv
      exact h _ _ _ w (by rw [List.append_nil]; exact hown) (Below.refl _ _) (by simp [hM]) (Or.inr rfl)
    · subst hv
      exact h _ _ _ w (by rw [List.append_nil]; exact hown) (Below.refl _ _) (by simp) (Or.inl (by simpa using hc))
  | some A =>
    have hby0 : (M.length + N.length) * i0.bytes ≤ 140737488355328 := by
      have : (M.length + N.length) * i0.bytes ≤ 2097152 * 128 := Nat.mul_le_mul hl hby
      omega
    have hnews : ∀ j u, (flat N)[j]? = some u → w.cell? (A.add j) = some u := by
      by_cases he : N = []
      · subst he
        intro j u hu
        simp [flat] at hu
      · have hN' := hN
        rcases hN with h | ⟨b, o, e, _⟩
        · exact absurd h he
        · cases e
          exact flat_cells hN'
    obtain ⟨v', w', hr, h1, hg, hn, -⟩ := run_append_own_at (P := Try.prog) w base 25 o.type 38 i0 _ 4 i0.bytes Try.underlying25 hi hz hsz rfl rfl (by decide) v M.length (flat M) hown0 A N.length c (flat N) (flat_len N) hnews (flat_one N) (by unfold maxLen; omega) hby0 hbase
    have hgo : K (act.put o.dst v') w' → Oper.wp Try.prog o act w K Q := fun hK => by
      unfold Oper.wp
      simp [execOp, ho, resolve, invoke, builtin, hs, hx, hr, Result.andThen]
      exact hK
    refine hgo ?_
    clear hr hgo
    have h2 : OwnE base v' (M ++ N) w' := by
      unfold OwnE
      rw [flat_append, List.length_append]
      exact h1
    have hg : Below base w w' := (Below.refl _ _).grown hg hbase (fun k hk => (World.ownsRow.lt hown0 k hk).1)
    rcases h2.form with ⟨hv, hM⟩ | ⟨b, cap, hv, _, _, hc, _⟩
    · subst hv
      exact h _ _ _ w' h2 hg (by rw [← List.length_append, hM]; rfl) (Or.inr rfl)
    · subst hv
      exact h _ _ _ w' h2 hg (by simp) (Or.inl (by simpa using hc))

end Go.Proofs.Ytobblnlefhkanaa
