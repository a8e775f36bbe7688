/- Entries appended to a row of the call's own, as a law for the walk. Over the seat's translation. -/
import Derived.Test.YtgjhmpgofmmniaaG05
import Derived.Test.YtgjhmpgofmmniaaG03
import Derived.Lib.SliceRun
import Derived.Laws.IdiomCopy
import Derived.Deep.RegionHeldLaw
namespace Go.Proofs.Ytgjhmpgofmmniaa
open Go.RowKit

theorem OwnE.made (base : Nat) (W : World) (h : base ≤ W.heap.size) : OwnE base (.slice (some ⟨W.heap.size, 0, none⟩) 0 0) [] (W.alloc (.cells #[] 29)) :=
  World.ownsRow_made W #[] 0 h (Nat.zero_le _) rfl

theorem append_ents {ops : Array Oper} {rest : List Oper} {o : Oper} {act : Act} {w : World} {Q : Exit → Act → World → Prop} (hgd : o.guard = none) (s x : Operand)
    (ho : o.op = .call { callee := .builtin .append, args := #[s, x], argTypes := #[23, 23] })
    (base : Nat) (v : Value) (M : List AEnt) (hs : act.eval s = v) (hown : OwnE base v M w) (ad : Option Addr) (m c : Nat) (N : List AEnt) (hx : act.eval x = .slice ad m c) (hmN : m = N.length)
    (hN : EntsAt w ad N) (h0 : ad = none → c = 0) (hl : M.length + N.length ≤ 2097152) (hbase : base ≤ w.heap.size)
    (h : ∀ a' n' c' w', OwnE base (.slice a' n' c') (M ++ N) w' → Below base w w' → (n' = M.length + N.length) → (M.length + N.length ≤ c' ∨ a' = none) → wpList Try.prog ops Q rest (act.put o.dst (.slice a' n' c')) w') :
    wpList Try.prog ops Q (o :: rest) act w := by
  obtain ⟨i0, hi, hz, hsz, hby⟩ := Try.info29
  subst hmN
  have hown0 : w.ownsRow base 29 4 v M.length (flat M) := hown
  cases ad with
  | none =>
    have hN0 : N = [] := by
      rcases hN with h | ⟨b, o, e, _⟩
      · exact h
      · cases e
    subst hN0
    have h0' := h0 rfl
    subst h0'
    refine wpList_append_own_none hgd s x 23 ho base 29 i0 4 Try.underlying23 hi v M.length (flat M) hs hown0 hx ?_
    rcases hown.form with ⟨hv, hM⟩ | ⟨b, cap, hv, _, _, hc, _⟩
    · subst hv
      exact h _ _ _ w (by rw [List.append_nil]; exact hown) (Below.refl _ _) (by simp [hM]) (Or.inr rfl)
    · subst hv
      exact h _ _ _ w (by rw [List.append_nil]; exact hown) (Below.refl _ _) (by simp) (Or.inl (by simpa using hc))
  | some A =>
    have hby0 : (M.length + N.length) * i0.bytes ≤ 140737488355328 := by
      have : (M.length + N.length) * i0.bytes ≤ 2097152 * 128 := Nat.mul_le_mul hl hby
      omega
    have hnews : ∀ j u, (flat N)[j]? = some u → w.cell? (A.add j) = some u := by
      by_cases he : N = []
      · subst he
        intro j u hu
        simp [flat] at hu
      · have hN' := hN
        rcases hN with h | ⟨b, o, e, _⟩
        · exact absurd h he
        · cases e
          exact flat_cells hN'
    refine wpList_append_own_at _ hgd s x 23 ho base 29 i0 _ 4 i0.bytes Try.underlying23 hi hz hsz rfl rfl (by decide) v M.length (flat M) hs hown0 A N.length c (flat N) hx (flat_len N) hnews (flat_one N) (by unfold maxLen; omega) hby0 hbase ?_
    intro v' w' h1 hg hn _
    have h2 : OwnE base v' (M ++ N) w' := by
      unfold OwnE
      rw [flat_append, List.length_append]
      exact h1
    have hg : Below base w w' := (Below.refl _ _).grown hg hbase (fun k hk => (World.ownsRow.lt hown0 k hk).1)
    rcases h2.form with ⟨hv, hM⟩ | ⟨b, cap, hv, _, _, hc, _⟩
    · subst hv
      exact h _ _ _ w' h2 hg (by rw [← List.length_append, hM]; rfl) (Or.inr rfl)
    · subst hv
      exact h _ _ _ w' h2 hg (by simp) (Or.inl (by simpa using hc))

/-- The same, with what has turned told. -/
theorem append_rows {ops : Array Oper} {rest : List Oper} {o : Oper} {act : Act} {w : World} {Q : Exit → Act → World → Prop} (hgd : o.guard = none) (s x : Operand)
    (ho : o.op = .call { callee := .builtin .append, args := #[s, x], argTypes := #[23, 23] })
    (base : Nat) (v : Value) (M : List AEnt) (hs : act.eval s = v) (hown : OwnE base v M w) (ad : Option Addr) (m c : Nat) (N : List AEnt) (hx : act.eval x = .slice ad m c) (hmN : m = N.length)
    (hN : EntsAt w ad N) (h0 : ad = none → c = 0) (hl : M.length + N.length ≤ 2097152) (hbase : base ≤ w.heap.size)
    (h : ∀ a' n' c' w', OwnE base (.slice a' n' c') (M ++ N) w' → w.grownBy w' v.ownBlock → (n' = M.length + N.length) → (M.length + N.length ≤ c' ∨ a' = none) → wpList Try.prog ops Q rest (act.put o.dst (.slice a' n' c')) w') :
    wpList Try.prog ops Q (o :: rest) act w := by
  obtain ⟨i0, hi, hz, hsz, hby⟩ := Try.info29
  subst hmN
  have hown0 : w.ownsRow base 29 4 v M.length (flat M) := hown
  cases ad with
  | none =>
    have hN0 : N = [] := by
      rcases hN with h | ⟨b, o, e, _⟩
      · exact h
      · cases e
    subst hN0
    have h0' := h0 rfl
    subst h0'
    refine wpList_append_own_none hgd s x 23 ho base 29 i0 4 Try.underlying23 hi v M.length (flat M) hs hown0 hx ?_
    rcases hown.form with ⟨hv, hM⟩ | ⟨b, cap, hv, _, _, hc, _⟩
    · subst hv
      exact h _ _ _ w (by rw [List.append_nil]; exact hown) ⟨rfl, rfl, rfl, Nat.le_refl _, fun _ _ _ => rfl⟩ (by simp [hM]) (Or.inr rfl)
    · subst hv
      exact h _ _ _ w (by rw [List.append_nil]; exact hown) ⟨rfl, rfl, rfl, Nat.le_refl _, fun _ _ _ => rfl⟩ (by simp) (Or.inl (by simpa using hc))
  | some A =>
    have hby0 : (M.length + N.length) * i0.bytes ≤ 140737488355328 := by
      have : (M.length + N.length) * i0.bytes ≤ 2097152 * 128 := Nat.mul_le_mul hl hby
      omega
    have hnews : ∀ j u, (flat N)[j]? = some u → w.cell? (A.add j) = some u := by
      by_cases he : N = []
      · subst he
        intro j u hu
        simp [flat] at hu
      · have hN' := hN
        rcases hN with h | ⟨b, o, e, _⟩
        · exact absurd h he
        · cases e
          exact flat_cells hN'
    refine wpList_append_own_at _ hgd s x 23 ho base 29 i0 _ 4 i0.bytes Try.underlying23 hi hz hsz rfl rfl (by decide) v M.length (flat M) hs hown0 A N.length c (flat N) hx (flat_len N) hnews (flat_one N) (by unfold maxLen; omega) hby0 hbase ?_
    intro v' w' h1 hg hn _
    have h2 : OwnE base v' (M ++ N) w' := by
      unfold OwnE
      rw [flat_append, List.length_append]
      exact h1
    rcases h2.form with ⟨hv, hM⟩ | ⟨b, cap, hv, _, _, hc, _⟩
    · subst hv
      exact h _ _ _ w' h2 hg (by rw [← List.length_append, hM]; rfl) (Or.inr rfl)
    · subst hv
      exact h _ _ _ w' h2 hg (by simp) (Or.inl (by simpa using hc))

/-- The same as a step of a region that draws its order. -/
theorem step_ents {ops : Array Oper} {o : Oper} {act : Act} {w : World} {K : Act → World → Prop} {Q : Exit → Act → World → Prop} {E : Prop} (d : Option Tmp) (hd : o.dst = d) (hgd : o.guard = none) (s x : Operand)
    (ho : o.op = .call { callee := .builtin .append, args := #[s, x], argTypes := #[23, 23] })
    (base : Nat) (v : Value) (M : List AEnt) (hs : act.eval s = v) (hown : OwnE base v M w) (ad : Option Addr) (m c : Nat) (N : List AEnt) (hx : act.eval x = .slice ad m c) (hmN : m = N.length)
    (hN : EntsAt w ad N) (h0 : ad = none → c = 0) (hl : M.length + N.length ≤ 2097152) (hbase : base ≤ w.heap.size)
    (h : ∀ a' n' c' w', OwnE base (.slice a' n' c') (M ++ N) w' → Below base w w' → (n' = M.length + N.length) → (M.length + N.length ≤ c' ∨ a' = none) → K (act.put d (.slice a' n' c')) w') :
    if Region.wanted o (yielded ops act.tmps) = true then Oper.wp Try.prog o act w K Q else E := by
  subst hd
  have hw : Region.wanted o (yielded ops act.tmps) = true := by simp [Region.wanted, hgd]
  rw [if_pos hw]
  obtain ⟨i0, hi, hz, hsz, hby⟩ := Try.info29
  subst hmN
  have hown0 : w.ownsRow base 29 4 v M.length (flat M) := hown
  cases ad with
  | none =>
    have hN0 : N = [] := by
      rcases hN with h | ⟨b, o, e, _⟩
      · exact h
      · cases e
    subst hN0
    have h0' := h0 rfl
    subst h0'
    have hr := run_append_owned_none (P := Try.prog) (w := w) base 23 o.type 29 i0 4 Try.underlying23 hi v M.length (flat M) hown0
    have hgo : K (act.put o.dst v) w → Oper.wp Try.prog o act w K Q := fun hK => by
      unfold Oper.wp
      simp [execOp, ho, resolve, invoke, builtin, hs, hx, hr, Result.andThen]
      exact hK
    refine hgo ?_
    clear hr hgo
    rcases hown.form with ⟨hv, hM⟩ | ⟨b, cap, hv, _, _, hc, _⟩
    · subst hv
      exact h _ _ _ w (by rw [List.append_nil]; exact hown) (Below.refl _ _) (by simp [hM]) (Or.inr rfl)
    · subst hv
      exact h _ _ _ w (by rw [List.append_nil]; exact hown) (Below.refl _ _) (by simp) (Or.inl (by simpa using hc))
  | some A =>
    have hby0 : (M.length + N.length) * i0.bytes ≤ 140737488355328 := by
      have : (M.length + N.length) * i0.bytes ≤ 2097152 * 128 := Nat.mul_le_mul hl hby
      omega
    have hnews : ∀ j u, (flat N)[j]? = some u → w.cell? (A.add j) = some u := by
      by_cases he : N = []
      · subst he
        intro j u hu
        simp [flat] at hu
      · have hN' := hN
        rcases hN with h | ⟨b, o, e, _⟩
        · exact absurd h he
        · cases e
          exact flat_cells hN'
    obtain ⟨v', w', hr, h1, hg, hn, -⟩ := run_append_own_at (P := Try.prog) w base 23 o.type 29 i0 _ 4 i0.bytes Try.underlying23 hi hz hsz rfl rfl (by decide) v M.length (flat M) hown0 A N.length c (flat N) (flat_len N) hnews (flat_one N) (by unfold maxLen; omega) hby0 hbase
    have hgo : K (act.put o.dst v') w' → Oper.wp Try.prog o act w K Q := fun hK => by
      unfold Oper.wp
      simp [execOp, ho, resolve, invoke, builtin, hs, hx, hr, Result.andThen]
      exact hK
    refine hgo ?_
    clear hr hgo
    have h2 : OwnE base v' (M ++ N) w' := by
      unfold OwnE
      rw [flat_append, List.length_append]
      exact h1
    have hg : Below base w w' := (Below.refl _ _).grown hg hbase (fun k hk => (World.ownsRow.lt hown0 k hk).1)
    rcases h2.form with ⟨hv, hM⟩ | ⟨b, cap, hv, _, _, hc, _⟩
    · subst hv
      exact h _ _ _ w' h2 hg (by rw [← List.length_append, hM]; rfl) (Or.inr rfl)
    · subst hv
      exact h _ _ _ w' h2 hg (by simp) (Or.inl (by simpa using hc))

end Go.Proofs.Ytgjhmpgofmmniaa

/- Rows of entries that are made. -/
namespace Go.Proofs.Ytgjhmpgofmmniaa
open Go.RowKit

/-- The box at B holds an entry in W, and may be written. -/
abbrev Own4 (B : Nat) (k n : Int) (s : ByteArray) (id : Int) (W : World) : Prop :=
  W.cell? ⟨B, 0, none⟩ = some (.int .i64 k) ∧ W.cell? ⟨B, 1, none⟩ = some (.int .i64 n) ∧ W.cell? ⟨B, 2, none⟩ = some (.string s) ∧ W.cell? ⟨B, 3, none⟩ = some (.int .i64 id) ∧
    W.frozen? ⟨B, 0, none⟩ = false ∧ W.frozen? ⟨B, 1, none⟩ = false ∧ W.frozen? ⟨B, 2, none⟩ = false ∧ W.frozen? ⟨B, 3, none⟩ = false

theorem own4_next {B : Nat} {k n : Int} {s : ByteArray} {id : Int} {W W' : World} (h : Own4 B k n s id W) (hB : B < W.heap.size) (hb : Below W.heap.size W W') : Own4 B k n s id W' := by
  have hc := fun o => (bcell hb).1 B o hB
  have hf := fun o => (bcell hb).2 B o hB
  unfold Own4
  simp only [hc, hf]
  exact h

theorem own4_box (w : World) (k n : Int) (s : ByteArray) (id : Int) (t : TypeId) : Own4 w.heap.size k n s id (w.alloc (.cells #[.int .i64 k, .int .i64 n, .string s, .int .i64 id] t)) := by
  refine ⟨?_, ?_, ?_, ?_, ?_, ?_, ?_, ?_⟩
  all_goals go_simp

theorem size_sets (W : World) (B o : Nat) (vs : List Value) : (W.setCells B o vs).heap.size = W.heap.size := by
  induction vs generalizing o W with
  | nil => rfl
  | cons v r ih => exact (ih (W.setCell ⟨B, o, none⟩ v) (o + 1)).trans (by simp [World.setCell])

theorem below_sets {B : Nat} {w W : World} (h : Below B w W) (o : Nat) (vs : List Value) : Below B w (W.setCells B o vs) := by
  induction vs generalizing o W with
  | nil => exact h
  | cons v r ih => exact ih (h.setCell (Nat.le_refl _) v) _

/-- Block B is a row of n entries that may be written; its first k are those of L; below B the world is as in w. -/
def MadeE (w : World) (B n k : Nat) (L : List AEnt) (W : World) : Prop :=
  Below B w W ∧ B < W.heap.size ∧ W.there B 0 (n * 4) ∧ ∀ i c, i < k → L[i]? = some c → W.rangeAt B (i * 4) c.cells

theorem MadeE.keep {w : World} {B n k : Nat} {L : List AEnt} {W W' : World} (h : MadeE w B n k L W) (hb : Below W.heap.size W W') : MadeE w B n k L W' := by
  obtain ⟨h1, h2, h3, h4⟩ := h
  have hz := hb.size
  have hc := (bcell hb).1
  have hf := (bcell hb).2
  refine ⟨h1.trans (hb.mono (by omega)), by omega, fun j hj => ?_, fun i c hi hc' j v hv => ?_⟩
  · rw [hc _ _ h2, hf _ _ h2]; exact h3 j hj
  · rw [hc _ _ h2]; exact h4 i c hi hc' j v hv

theorem MadeE.put {w : World} {B n k : Nat} {L : List AEnt} {W : World} {c : AEnt} (h : MadeE w B n k L W) (hk : k < n) (hc : L[k]? = some c) : MadeE w B n (k + 1) L (W.setCells B (k * 4) c.cells) := by
  obtain ⟨h1, h2, h3, h4⟩ := h
  have hlen : c.cells.length = 4 := rfl
  refine ⟨below_sets h1 _ _, by rw [size_sets]; exact h2, World.there_setCells h3 _ _ _, fun i d hi hd => ?_⟩
  by_cases hik : i = k
  · subst hik
    rw [hc] at hd
    cases hd
    exact World.rangeAt_setCells_same _ _ _ _ (fun j hj => by
      have := h3 (i * 4 + j) (by rw [hlen] at hj; omega)
      rwa [Nat.zero_add] at this)
  · refine World.rangeAt_setCells_apart (h4 i d (by omega) hd) _ _ _ (Or.inr (Or.inl ?_))
    have : d.cells.length = 4 := rfl
    omega

theorem MadeE.start (w : World) (n : Nat) (L : List AEnt) (z : Array Value) (t : TypeId) : MadeE w w.heap.size n 0 L (w.alloc (.cells (madeCells z (n * 4)) t)) := by
  refine ⟨(Below.refl _ _).alloc (Nat.le_refl _) _, by simp, fun j hj => ?_, fun i c hi => absurd hi (Nat.not_lt_zero _)⟩
  have hb : (w.alloc (.cells (madeCells z (n * 4)) t)).heap[w.heap.size]? = some (.cells (madeCells z (n * 4)) t) := by
    show (w.heap.push _)[w.heap.size]? = _
    simp
  constructor
  · simp only [World.cell?, hb]
    simp [madeCells, hj]
  · simp only [World.frozen?, hb]
    simp

theorem MadeE.ents {w : World} {B n : Nat} {L : List AEnt} {W : World} (h : MadeE w B n L.length L W) : EntsAt W (some ⟨B, 0, none⟩) L :=
  Or.inr ⟨B, 0, rfl, h.2.1, fun i c hc => by rw [Nat.zero_add]; exact h.2.2.2 i c (List.getElem?_eq_some_iff.1 hc).1 hc⟩

/-- Four cells at an offset, which may be written. -/
abbrev There4 (W : World) (b o : Nat) : Prop :=
  ∃ x0 x1 x2 x3, W.cell? ⟨b, o, none⟩ = some x0 ∧ W.cell? ⟨b, o + 1, none⟩ = some x1 ∧ W.cell? ⟨b, o + 2, none⟩ = some x2 ∧ W.cell? ⟨b, o + 3, none⟩ = some x3 ∧
    W.frozen? ⟨b, o, none⟩ = false ∧ W.frozen? ⟨b, o + 1, none⟩ = false ∧ W.frozen? ⟨b, o + 2, none⟩ = false ∧ W.frozen? ⟨b, o + 3, none⟩ = false

theorem there4_of {W : World} {b n k : Nat} (h : W.there b 0 (n * 4)) (hk : k < n) : There4 W b (k * 4) := by
  have hh : ∀ j, j < 4 → (∃ x, W.cell? ⟨b, k * 4 + j, none⟩ = some x) ∧ W.frozen? ⟨b, k * 4 + j, none⟩ = false := fun j hj => by
    have := h (k * 4 + j) (by omega)
    rw [Nat.zero_add] at this
    exact ⟨Option.isSome_iff_exists.1 this.1, this.2⟩
  obtain ⟨⟨x0, a0⟩, b0⟩ := hh 0 (by omega)
  obtain ⟨⟨x1, a1⟩, b1⟩ := hh 1 (by omega)
  obtain ⟨⟨x2, a2⟩, b2⟩ := hh 2 (by omega)
  obtain ⟨⟨x3, a3⟩, b3⟩ := hh 3 (by omega)
  exact ⟨x0, x1, x2, x3, a0, a1, a2, a3, b0, b1, b2, b3⟩

end Go.Proofs.Ytgjhmpgofmmniaa

/- Entries that lie in a world, carried on. -/
namespace Go.Proofs.Ytgjhmpgofmmniaa
open Go.RowKit

/-- The entries lie at a in W, and W lies over w. -/
abbrev LiesE (w : World) (a : Option Addr) (L : List AEnt) (W : World) : Prop := EntsAt W a L ∧ Below w.heap.size w W
theorem liese_next {w : World} {a : Option Addr} {L : List AEnt} {W W' : World} (h : LiesE w a L W) (hb : Below W.heap.size W W') : LiesE w a L W' := ⟨h.1.keep hb, h.2.trans (hb.mono h.2.size)⟩
theorem liese_drew {w : World} {a : Option Addr} {L : List AEnt} {W : World} (h : LiesE w a L W) : LiesE w a L W.drew := liese_next h (Below.refl _ _).drew

theorem ents_far {C : Nat} {W W' : World} {b o : Nat} {L : List AEnt} (h : EntsAt W (some ⟨b, o, none⟩) L) (hb : b < C) (hq : Below C W W') : EntsAt W' (some ⟨b, o, none⟩) L := by
  rcases h with h | ⟨b', o', e, hlt, hr⟩
  · exact Or.inl h
  · cases e
    exact Or.inr ⟨b, o, rfl, Nat.lt_of_lt_of_le hlt hq.size, fun i c hc j v hv => by rw [hq.cell (p := ⟨b, _, none⟩) hb]; exact hr i c hc j v hv⟩
theorem liese_far {w : World} {b o : Nat} {L : List AEnt} {W W' : World} (h : LiesE w (some ⟨b, o, none⟩) L W) (hb : b < w.heap.size) (hq : Below w.heap.size W W') : LiesE w (some ⟨b, o, none⟩) L W' := ⟨ents_far h.1 hb hq, h.2.trans hq⟩
theorem ents_take {W : World} {b o : Nat} {L : List AEnt} (h : EntsAt W (some ⟨b, o, none⟩) L) (k : Nat) : EntsAt W (some ⟨b, o, none⟩) (L.take k) := by
  rcases h with h | ⟨b', o', e, hlt, hr⟩
  · subst h; exact Or.inl (by simp)
  · cases e
    exact Or.inr ⟨b, o, rfl, hlt, fun i c hc => hr i c (by
      rw [List.getElem?_take] at hc
      by_cases hi : i < k
      · simpa [hi] using hc
      · simp [hi] at hc)⟩
theorem ents_drop {W : World} {b o : Nat} {L : List AEnt} (h : EntsAt W (some ⟨b, o, none⟩) L) (k : Nat) : EntsAt W (some ⟨b, o + k * 4, none⟩) (L.drop k) := by
  rcases h with h | ⟨b', o', e, hlt, hr⟩
  · subst h; exact Or.inl (by simp)
  · cases e
    refine Or.inr ⟨b, o + k * 4, rfl, hlt, fun i c hc => ?_⟩
    have := hr (k + i) c (by rw [List.getElem?_drop] at hc; exact hc)
    rwa [show o + (k + i) * 4 = o + k * 4 + i * 4 by omega] at this

end Go.Proofs.Ytgjhmpgofmmniaa

/- The contracts of slices.Clone and slices.Delete at entries, over the seat's translation. -/
namespace Go.Proofs.Ytgjhmpgofmmniaa
open Go.RowKit

/-- The value is a slice of the entries L, which came at base or behind, and may be written. -/
def RowE (base : Nat) (v : Value) (L : List AEnt) (W : World) : Prop :=
  (v = .slice none 0 0 ∧ L = []) ∨ ∃ b cap, v = .slice (some ⟨b, 0, none⟩) L.length cap ∧ base ≤ b ∧ b < W.heap.size ∧ L.length ≤ cap ∧ EntsAt W (some ⟨b, 0, none⟩) L ∧ W.there b 0 (L.length * 4)
theorem OwnE.row {base : Nat} {v : Value} {L : List AEnt} {W : World} (h : OwnE base v L W) : RowE base v L W := by
  rcases h.form with h | ⟨b, cap, hv, h1, h2, h3, h4, h5, h6⟩
  · exact Or.inl h
  · exact Or.inr ⟨b, cap, hv, h1, h2, h3, h5, fun j hj => h6 j (by omega)⟩
theorem RowE.next {base : Nat} {v : Value} {L : List AEnt} {W W' : World} (h : RowE base v L W) (hb : Below W.heap.size W W') : RowE base v L W' := by
  rcases h with h | ⟨b, cap, hv, h1, h2, h3, h4, h5⟩
  · exact Or.inl h
  · exact Or.inr ⟨b, cap, hv, h1, Nat.lt_of_lt_of_le h2 hb.size, h3, h4.keep hb, there_next h5 h2 hb⟩
theorem RowE.mono {base base' : Nat} {v : Value} {L : List AEnt} {W : World} (h : RowE base v L W) (hb : base' ≤ base) : RowE base' v L W := by
  rcases h with h | ⟨b, cap, hv, h1, r⟩
  · exact Or.inl h
  · exact Or.inr ⟨b, cap, hv, Nat.le_trans hb h1, r⟩
theorem RowE.slice {base : Nat} {v : Value} {L : List AEnt} {W : World} (h : RowE base v L W) : ∃ a cap, v = .slice a L.length cap ∧ (a = none → cap = 0) ∧ L.length ≤ cap ∧ EntsAt W a L := by
  rcases h with ⟨rfl, rfl⟩ | ⟨b, cap, rfl, _, _, hc, he, _⟩
  · exact ⟨none, 0, rfl, fun _ => rfl, Nat.le_refl _, Or.inl rfl⟩
  · exact ⟨_, cap, rfl, (fun h => by cases h), hc, he⟩

set_option maxRecDepth 100000 in
set_option maxHeartbeats 1000000 in
theorem clone_entries (b o cap : Nat) (L : List AEnt) (w : World) (hL : EntsAt w (some ⟨b, o, none⟩) L) (hl : L.length ≤ 1048576) (h1 : 1 ≤ L.length) :
    Calls Try.prog 68 #[.slice (some ⟨b, o, none⟩) L.length cap] w fun e w' => ∃ g c, e = .returned (.slice (some ⟨g, 0, none⟩) L.length c) ∧ OwnE w.heap.size (.slice (some ⟨g, 0, none⟩) L.length c) L w' ∧ Below w.heap.size w w' := by
  have hq : ∀ wx, (binOp .eql 23 (.slice (some ⟨b, o, none⟩) L.length cap) (.slice none 0 0)).run Try.prog wx = .ok (.bool false) wx := fun wx => Lib.run_eql_slice_nil wx 23 29 _ _ _ _ _ Try.underlying23
  have hL2 : EntsAt (w.alloc (.cells #[] 29)) (some ⟨b, o, none⟩) L := hL.keep ((Below.refl _ _).alloc (Nat.le_refl _) _)
  go_enter Try.func68, Try.ntmps68
  go_wp2_with (at_builtin; refine append_ents rfl _ _ rfl w.heap.size _ [] rfl (OwnE.made w.heap.size w (Nat.le_refl _)) (some ⟨b, o, none⟩) _ cap L rfl rfl hL2 (fun h => by cases h) (by simp; omega) (by simp) ?_; intro a3 n3 c3 w3 ho hg hn hc; clear hL2)
  have hn' : n3 = L.length := by simpa using hn
  subst hn'
  have hB3 : Hid (Below w.heap.size w w3) := ((Below.refl _ _).alloc (Nat.le_refl _) _).trans hg
  have ho3 : OwnE w.heap.size (.slice a3 L.length c3) L w3 := ho
  clear ho hg hn hc
  rcases ho3.form with ⟨hv, hM⟩ | ⟨g, cap', hv, -⟩
  · rw [hM] at h1; simp at h1
  · cases hv
    go_ret
    exact ⟨_, _, rfl, ho3, hB3.out⟩

theorem OwnE.take {base g cap : Nat} {L : List AEnt} {W : World} (h : OwnE base (.slice (some ⟨g, 0, none⟩) L.length cap) L W) {i : Nat} (hi : i ≤ L.length) : W.ownsRow base 29 4 (.slice (some ⟨g, 0, none⟩) i cap) i (flat (L.take i)) := by
  have e : flat (L.take i) = (flat L).take (i * 4) := by
    have h1 : flat L = flat (L.take i) ++ flat (L.drop i) := by rw [← flat_append, List.take_append_drop]
    have h2 : (flat (L.take i)).length = i * 4 := by rw [flat_len, List.length_take, Nat.min_eq_left hi]
    rw [h1, ← h2, List.take_left']
    rfl
  refine ⟨by rw [flat_len, List.length_take, Nat.min_eq_left hi], ?_⟩
  rcases h.2 with ⟨h, _⟩ | ⟨g', cap', cur, hv, hg, hh, hn, hcm, hcs, ht⟩
  · cases h
  · cases hv
    exact Or.inr ⟨g, cap, cur, rfl, hg, hh, by omega, hcm, hcs, by rw [e, ← ht, List.take_take, Nat.min_eq_left (by omega)]⟩

theorem step_fits {ops : Array Oper} {o : Oper} {act : Act} {w : World} {K : Act → World → Prop} {Q : Exit → Act → World → Prop} {E : Prop} (d : Option Tmp) (hd : o.dst = d) (hgd : o.guard = none) (s x : Operand)
    (ho : o.op = .call { callee := .builtin .append, args := #[s, x], argTypes := #[23, 23] })
    (base g cap : Nat) (L : List AEnt) (i : Nat) (hs : act.eval s = .slice (some ⟨g, 0, none⟩) i cap) (hown : OwnE base (.slice (some ⟨g, 0, none⟩) L.length cap) L w) (hi : i ≤ L.length)
    (A : Addr) (m c : Nat) (N : List AEnt) (hx : act.eval x = .slice (some A) m c) (hmN : m = N.length) (hN : EntsAt w (some A) N) (hroom : i + N.length ≤ cap) (r : Nat) (hr0 : i + m = r)
    (h : ∀ w', OwnE base (.slice (some ⟨g, 0, none⟩) r cap) (L.take i ++ N) w' → w.grownBy w' (some g) → K (act.put d (.slice (some ⟨g, 0, none⟩) r cap)) w') :
    if Region.wanted o (yielded ops act.tmps) = true then Oper.wp Try.prog o act w K Q else E := by
  subst hd
  have hw : Region.wanted o (yielded ops act.tmps) = true := by simp [Region.wanted, hgd]
  rw [if_pos hw]
  obtain ⟨i0, hi0, hz, hsz, hby⟩ := Try.info29
  subst hr0
  subst hmN
  have hnews : ∀ j u, (flat N)[j]? = some u → w.cell? (A.add j) = some u := by
    by_cases he : N = []
    · subst he
      intro j u hu
      simp [flat] at hu
    · have hN' := hN
      rcases hN with h | ⟨b, o, e, _⟩
      · exact absurd h he
      · cases e
        exact flat_cells hN'
  obtain ⟨w', hr, h1, h2⟩ := run_append_fits (P := Try.prog) w base 23 o.type 29 i0 4 Try.underlying23 hi0 hsz g i cap (flat (L.take i)) (hown.take hi) A N.length c (flat N) (flat_len N) hnews (flat_one N) hroom
  have h3 : OwnE base (.slice (some ⟨g, 0, none⟩) (i + N.length) cap) (L.take i ++ N) w' := by
    unfold OwnE
    rw [flat_append, List.length_append, List.length_take, Nat.min_eq_left hi]
    exact h1
  unfold Oper.wp
  simp [execOp, ho, resolve, invoke, builtin, hs, hx, hr, Result.andThen]
  exact h w' h3 h2

/-- 'clear' of one entry. -/
theorem run_clear_one (w : World) (ty : TypeId) (g o c : Nat) (ht : w.there g o 4) :
    (Builtin.clear_ #[23] ty #[.slice (some ⟨g, o, none⟩) 1 c]).run Try.prog w = .ok (.tuple #[]) (w.setCells g o [.int .i64 0, .int .i64 0, .string ⟨#[]⟩, .int .i64 0]) := by
  obtain ⟨i0, hi0, hz, hsz, hby⟩ := Try.info29
  have hv : (zeroValue 29).run Try.prog w = .ok (.agg #[.int .i64 0, .int .i64 0, .string ⟨#[]⟩, .int .i64 0]) w := by simp [zeroValue, typeInfo, hi0, hz]
  have hzc : (Builtin.zeroCells (Value.agg #[.int .i64 0, .int .i64 0, .string ⟨#[]⟩, .int .i64 0]).cells 1).toList = [.int .i64 0, .int .i64 0, .string ⟨#[]⟩, .int .i64 0] := by
    simp [Builtin.zeroCells, Value.cells, List.range_succ]
  have hst := run_storeCells_cells (P := Try.prog) g o [.int .i64 0, .int .i64 0, .string ⟨#[]⟩, .int .i64 0] 0 w (fun j hj => (ht j hj).1) (fun j hj => (ht j hj).2) (by simp; exact ⟨rfl, rfl, rfl⟩)
  simp only [Nat.add_zero] at hst
  simp [Builtin.clear_, run_underlying Try.underlying23, hv, hzc, hst]

end Go.Proofs.Ytgjhmpgofmmniaa

/- The contract of slices.Delete at one entry, over the seat's translation. -/
namespace Go.Proofs.Ytgjhmpgofmmniaa
open Go.RowKit

set_option maxRecDepth 100000 in
set_option maxHeartbeats 4000000 in
theorem own_there {base g n cap : Nat} {L : List AEnt} {W : World} (h : OwnE base (.slice (some ⟨g, 0, none⟩) n cap) L W) : EntsAt W (some ⟨g, 0, none⟩) L ∧ W.there g 0 (cap * 4) := by
  rcases h.form with ⟨h, _⟩ | ⟨b, c, h, h1, h2, h3, h4, h5, h6⟩
  · cases h
  · cases h
    exact ⟨h5, h6⟩

theorem ents_set {W : World} {g o : Nat} {vs : List Value} {N : List AEnt} (h : EntsAt W (some ⟨g, 0, none⟩) N) (ho : N.length * 4 ≤ o) : EntsAt (W.setCells g o vs) (some ⟨g, 0, none⟩) N := by
  rcases h with h | ⟨b, o', e, hlt, hr⟩
  · exact Or.inl h
  · cases e
    refine Or.inr ⟨g, 0, rfl, by rw [size_sets]; exact hlt, fun i c hc => World.rangeAt_setCells_apart (hr i c hc) _ _ _ (Or.inr (Or.inl ?_))⟩
    have hi := (List.getElem?_eq_some_iff.1 hc).1
    have : c.cells.length = 4 := rfl
    omega
theorem below_setC {C B : Nat} {w W : World} (h : Below C w W) (hC : C ≤ B) (o : Nat) (vs : List Value) : Below C w (W.setCells B o vs) := by
  induction vs generalizing o W with
  | nil => exact h
  | cons v r ih => exact ih (h.setCell hC v) _

set_option maxRecDepth 100000 in
set_option maxHeartbeats 4000000 in
theorem delete_entries (g cap i r : Nat) (M : List AEnt) (hM : M.length = r + 1) (w : World) (base : Nat) (hO : OwnE base (.slice (some ⟨g, 0, none⟩) M.length cap) M w) (hi : i ≤ r) (hl : M.length ≤ 1048576) (hbs : base ≤ w.heap.size) :
    Calls Try.prog 67 #[.slice (some ⟨g, 0, none⟩) (r + 1) cap, .int .i64 i, .int .i64 ((i : Int) + 1)] w
      fun e w' => ∃ v, e = .returned v ∧ RowE base v (M.take i ++ M.drop (i + 1)) w' ∧ Below base w w' := by
  obtain ⟨hbg, hgl, hcl, hcm, hE, hT⟩ : base ≤ g ∧ g < w.heap.size ∧ M.length ≤ cap ∧ cap ≤ maxLen ∧ EntsAt w (some ⟨g, 0, none⟩) M ∧ w.there g 0 (cap * 4) := by
    rcases hO.form with ⟨h, _⟩ | ⟨b, c, h, h1, h2, h3, h4, h5, h6⟩
    · cases h
    · cases h
      exact ⟨h1, h2, h3, h4, h5, h6⟩
  have hne : ((i : Int) == (i : Int) + 1) = false := by simp; omega
  have hi1 : (i : Int) + 1 ≤ (r : Int) + 1 := by omega
  have hi2 : (0 : Int) ≤ (i : Int) + 1 := by omega
  have hi3 : i ≤ cap := by omega
  have hr3 : r ≤ cap := by omega
  have hr4 : r + 1 ≤ cap := by omega
  have hr5 : ¬ cap = r := by omega
  have hO' : OwnE base (.slice (some ⟨g, 0, none⟩) M.length cap) M w.drew := hO
  have hlen : Hid ((M.take i ++ M.drop (i + 1)).length = r) := by show (M.take i ++ M.drop (i + 1)).length = r; simp; omega
  have hl2 : r ≤ 1048576 := by omega
  have hdr' : EntsAt w.drew (some ⟨g, (i + 1) * 4, none⟩) (M.drop (i + 1)) := by simpa using ents_drop (hE.keep ((Below.refl _ _).drew)) (i + 1)
  by_cases hce : cap = i + 1
  · have hir : r = i := by omega
    subst hir
    subst hce
    go_enter Try.func67, Try.ntmps67
    go_wp2_with fail
    go_region_held_law (fun W => w.heap.size ≤ W.heap.size) (first | assumption | exact Nat.le_refl _ | exact Nat.le_trans (by assumption) (World.grownBy.size (by assumption)))
      (first
        | (refine step_fits (some 26) rfl rfl _ _ rfl base g (r + 1) M r rfl hO' (by omega) _ _ _ (M.drop (r + 1)) rfl (by simp <;> omega) (Or.inl (by simp <;> omega)) (by simp <;> omega) r (by omega) ?_; intro w3 ho3 hg3; (try simp only [Act.put, List.setIfInBounds_toArray, List.set_cons_zero, List.set_cons_succ])))
    have hF : Hid (OwnE base (.slice (some ⟨g, 0, none⟩) r (r + 1)) (M.take r ++ M.drop (r + 1)) w3 ∧ Below base w w3) := ⟨ho3, ((Below.refl base w).drew).grown hg3 hbs (fun k hk => by cases hk; exact hbg)⟩
    have hgl3 : Hid (g < w3.heap.size) := Nat.lt_of_lt_of_le hgl hg3.size
    have ht3 : w3.there g (r * 4) 4 := fun j hj => by
      have := (own_there ho3).2 (r * 4 + j) (by omega)
      rwa [Nat.zero_add] at this
    have hcl : ∀ ty c, (Builtin.clear_ #[23] ty #[.slice (some ⟨g, r * 4, none⟩) 1 c]).run Try.prog w3 = .ok (.tuple #[]) (w3.setCells g (r * 4) [.int .i64 0, .int .i64 0, .string ⟨#[]⟩, .int .i64 0]) := fun ty c => run_clear_one w3 ty g (r * 4) c ht3
    clear ho3 hg3 ht3 hO'
    go_wp2_with fail
    go_ret
    refine ⟨_, rfl, Or.inr ⟨g, (r + 1), by rw [hlen.out]; rfl, hbg, by rw [size_sets]; exact hgl3.out, by rw [hlen.out]; exact hr3, ents_set (own_there hF.out.1).1 (by rw [hlen.out]; exact Nat.le_refl _), ?_⟩, below_setC hF.out.2 hbg _ _⟩
    rw [hlen.out]
    exact World.there_setCells (fun j hj => (own_there hF.out.1).2 j (by omega)) _ _ _
  · go_enter Try.func67, Try.ntmps67
    go_wp2_with fail
    go_region_held_law (fun W => w.heap.size ≤ W.heap.size) (first | assumption | exact Nat.le_refl _ | exact Nat.le_trans (by assumption) (World.grownBy.size (by assumption)))
      (first
        | (refine step_fits (some 26) rfl rfl _ _ rfl base g cap M i rfl hO' (by omega) _ _ _ (M.drop (i + 1)) rfl (by simp <;> omega) hdr' (by simp <;> omega) r (by omega) ?_; intro w3 ho3 hg3; (try simp only [Act.put, List.setIfInBounds_toArray, List.set_cons_zero, List.set_cons_succ])))
    have hF : Hid (OwnE base (.slice (some ⟨g, 0, none⟩) r cap) (M.take i ++ M.drop (i + 1)) w3 ∧ Below base w w3) := ⟨ho3, ((Below.refl base w).drew).grown hg3 hbs (fun k hk => by cases hk; exact hbg)⟩
    have hgl3 : Hid (g < w3.heap.size) := Nat.lt_of_lt_of_le hgl hg3.size
    have ht3 : w3.there g (r * 4) 4 := fun j hj => by
      have := (own_there ho3).2 (r * 4 + j) (by omega)
      rwa [Nat.zero_add] at this
    have hcl : ∀ ty c, (Builtin.clear_ #[23] ty #[.slice (some ⟨g, r * 4, none⟩) 1 c]).run Try.prog w3 = .ok (.tuple #[]) (w3.setCells g (r * 4) [.int .i64 0, .int .i64 0, .string ⟨#[]⟩, .int .i64 0]) := fun ty c => run_clear_one w3 ty g (r * 4) c ht3
    clear ho3 hg3 ht3 hO'
    go_wp2_with fail
    go_ret
    refine ⟨_, rfl, Or.inr ⟨g, cap, by rw [hlen.out]; rfl, hbg, by rw [size_sets]; exact hgl3.out, by rw [hlen.out]; exact hr3, ents_set (own_there hF.out.1).1 (by rw [hlen.out]; exact Nat.le_refl _), ?_⟩, below_setC hF.out.2 hbg _ _⟩
    rw [hlen.out]
    exact World.there_setCells (fun j hj => (own_there hF.out.1).2 j (by omega)) _ _ _

end Go.Proofs.Ytgjhmpgofmmniaa

/- What turns one block alone; marks. -/
namespace Go.Proofs.Ytgjhmpgofmmniaa
open Go.RowKit

/-- The decimals of n ahead of a text. -/
def mt (n : Nat) (s : ByteArray) : ByteArray := if n = 0 then s else mt (n / 10) (⟨#[UInt8.ofNat (48 + n % 10)]⟩ ++ s)
termination_by n

def markT (n : Nat) : ByteArray := ⟨#[109]⟩ ++ mt n ⟨#[]⟩

theorem mt_zero (s : ByteArray) : mt 0 s = s := by rw [mt]; simp

theorem mt_next (n : Nat) (s : ByteArray) (h : 0 < n) : mt n s = mt (n / 10) (⟨#[UInt8.ofNat (48 + n % 10)]⟩ ++ s) := by
  rw [mt, if_neg (by omega)]

/-- Of what lay in W only block B has turned in W'; blocks may have come. -/
structure Turn (B : Nat) (W W' : World) : Prop where
  os : W'.os = W.os
  tape : W'.tape = W.tape
  output : W'.output = W.output
  size : W.heap.size ≤ W'.heap.size
  block : ∀ k, k < W.heap.size → k ≠ B → W'.heap[k]? = W.heap[k]?

theorem Turn.refl (B : Nat) (W : World) : Turn B W W := ⟨rfl, rfl, rfl, Nat.le_refl _, fun _ _ _ => rfl⟩

theorem Turn.next {B : Nat} {w W W' : World} (h : Turn B w W) (k : Below W.heap.size W W') : Turn B w W' :=
  ⟨k.os.trans h.os, k.tape.trans h.tape, k.output.trans h.output, Nat.le_trans h.size k.size, fun i hi hg => (k.block i (Nat.lt_of_lt_of_le hi h.size)).trans (h.block i hi hg)⟩

theorem Turn.set {B : Nat} {w W : World} (h : Turn B w W) (o : Nat) (v : Value) : Turn B w (W.setCell ⟨B, o, none⟩ v) :=
  ⟨h.os, h.tape, h.output, by simpa [World.setCell] using h.size, fun i hi hg => (Below.heap_setCell W ⟨B, o, none⟩ v i hg).trans (h.block i hi hg)⟩

theorem Turn.sets {B : Nat} {w W : World} (h : Turn B w W) (o : Nat) (vs : List Value) : Turn B w (W.setCells B o vs) := by
  induction vs generalizing o W with
  | nil => exact h
  | cons v r ih => exact ih (h.set o v) _

theorem Turn.below {B C : Nat} {w W : World} (h : Turn B w W) (hC : C ≤ B) (hs : C ≤ w.heap.size) : Below C w W := ⟨h.os, h.tape, h.output, h.size, fun k hk => h.block k (by omega) (by omega)⟩

theorem Turn.cell {B : Nat} {W W' : World} (h : Turn B W W') {b : Nat} (h1 : b < W.heap.size) (h2 : b ≠ B) (o : Nat) : W'.cell? ⟨b, o, none⟩ = W.cell? ⟨b, o, none⟩ := World.cell?_of_block (w := W) (a := ⟨b, o, none⟩) (h.block b h1 h2)

theorem Turn.frozen {B : Nat} {W W' : World} (h : Turn B W W') {b : Nat} (h1 : b < W.heap.size) (h2 : b ≠ B) (o : Nat) : W'.frozen? ⟨b, o, none⟩ = W.frozen? ⟨b, o, none⟩ := World.frozen?_of_block (w := W) (a := ⟨b, o, none⟩) (h.block b h1 h2)

theorem Turn.ents {B : Nat} {W W' : World} (h : Turn B W W') {a : Option Addr} {L : List AEnt} (hL : EntsAt W a L) (ha : L = [] ∨ ∀ b o, a = some ⟨b, o, none⟩ → b ≠ B) : EntsAt W' a L := by
  rcases hL with hL | ⟨b, o, e, hlt, hr⟩
  · exact Or.inl hL
  · rcases ha with ha | ha
    · exact Or.inl ha
    · exact Or.inr ⟨b, o, e, Nat.lt_of_lt_of_le hlt h.size, fun i c hc j v hv => by rw [h.cell hlt (ha b o e)]; exact hr i c hc j v hv⟩

/-- The marks of an entry from k on. -/
def mkEnt (k : Nat) : AEnt := ⟨k, (k : Int) + 1, markT (k + 2), (k : Int) + 1 + 1 + 1⟩

theorem run_ix4o {P : Program} (t e : TypeId) (a : Option Addr) (B len cap k : Nat) (w : World) (ha : a = some ⟨B, 0, none⟩ ∨ len = 0) (hk : k < len) (ht : P.underlying t = some (.slice e)) (hs : (sizeOf e).run P w = .ok 4 w) :
    (Instr.indexAt t (.slice a len cap) (.int .i64 k)).run P w = .ok (.pointer (some ⟨B, k * 4, none⟩)) w := by
  rcases ha with rfl | h
  · have := run_ix4 t e B 0 len cap k w hk ht hs
    rwa [Nat.zero_add] at this
  · omega

end Go.Proofs.Ytgjhmpgofmmniaa
