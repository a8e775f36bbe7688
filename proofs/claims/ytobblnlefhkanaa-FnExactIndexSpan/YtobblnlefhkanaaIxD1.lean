/- The contracts of slices.Clone and slices.Delete at entries, over the seat's translation. -/
import Derived.Test.YtobblnlefhkanaaIxP0
import Derived.Test.YtobblnlefhkanaaIxC0
import Derived.Test.YtobblnlefhkanaaIxLies
import Derived.Lib.SliceRun
import Derived.Laws.IdiomCopy
import Derived.Deep.RegionHeldLaw
namespace Go.Proofs.Ytobblnlefhkanaa
open Go.RowKit

/-- The value is a slice of the entries L, which came at base or behind, and may be written. -/
def RowE (base : Nat) (v : Value) (L : List AEnt) (W : World) : Prop :=
  (v = .slice none 0 0 ∧ L = []) ∨ ∃ b cap, v = .slice (some ⟨b, 0, none⟩) L.length cap ∧ base ≤ b ∧ b < W.heap.size ∧ L.length ≤ cap ∧ EntsAt W (some ⟨b, 0, none⟩) L ∧ W.there b 0 (L.length * 4)
theorem OwnE.row {base : Nat} {v : Value} {L : List AEnt} {W : World} (h : OwnE base v L W) : RowE base v L W := by
  rcases h.form with h | ⟨b, cap, hv, h1, h2, h3, h4, h5, h6⟩
  · exact Or.inl h
  · exact Or.inr ⟨b, cap, hv, h1, h2, h3, h5, fun j hj => h6 j (by omega)⟩
theorem RowE.next {base : Nat} {v : Value} {L : List AEnt} {W W' : World} (h : RowE base v L W) (hb : Below W.heap.size W W') : RowE base v L W' := by
  rcases h with h | ⟨b, cap, hv, h1, h2, h3, h4, h5⟩
  · exact Or.inl h
  · exact Or.inr ⟨b, cap, hv, h1, Nat.lt_of_lt_of_le h2 hb.size, h3, h4.keep hb, there_next h5 h2 hb⟩
theorem RowE.mono {base base' : Nat} {v : Value} {L : List AEnt} {W : World} (h : RowE base v L W) (hb : base' ≤ base) : RowE base' v L W := by
  rcases h with h | ⟨b, cap, hv, h1, r⟩
  · exact Or.inl h
  · exact Or.inr ⟨b, cap, hv, Nat.le_trans hb h1, r⟩
theorem RowE.slice {base : Nat} {v : Value} {L : List AEnt} {W : World} (h : RowE base v L W) : ∃ a cap, v = .slice a L.length cap ∧ (a = none → cap = 0) ∧ L.length ≤ cap ∧ EntsAt W a L := by
  rcases h with ⟨rfl, rfl⟩ | ⟨b, cap, rfl, _, _, hc, he, _⟩
  · exact ⟨none, 0, rfl, fun _ => rfl, Nat.le_refl _, Or.inl rfl⟩
  · exact ⟨_, cap, rfl, (fun h => by cases h), hc, he⟩

set_option maxRecDepth 100000 in
set_option maxHeartbeats 1000000 in
theorem clone_entries (b o cap : Nat) (L : List AEnt) (w : World) (hL : EntsAt w (some ⟨b, o, none⟩) L) (hl : L.length ≤ 1048576) (h1 : 1 ≤ L.length) :
    Calls Try.prog 63 #[.slice (some ⟨b, o, none⟩) L.length cap] w fun e w' => ∃ g c, e = .returned (.slice (some ⟨g, 0, none⟩) L.length c) ∧ OwnE w.heap.size (.slice (some ⟨g, 0, none⟩) L.length c) L w' ∧ Below w.heap.size w w' := by
  have hq : ∀ wx, (binOp .eql 25 (.slice (some ⟨b, o, none⟩) L.length cap) (.slice none 0 0)).run Try.prog wx = .ok (.bool false) wx := fun wx => Lib.run_eql_slice_nil wx 25 38 _ _ _ _ _ Try.underlying25
  have hL2 : EntsAt (w.alloc (.cells #[] 38)) (some ⟨b, o, none⟩) L := hL.keep ((Below.refl _ _).alloc (Nat.le_refl _) _)
  go_enter Try.func63, Try.ntmps63
  go_wp2_with (at_builtin; refine append_ents rfl _ _ rfl w.heap.size _ [] rfl (OwnE.made w.heap.size w (Nat.le_refl _)) (some ⟨b, o, none⟩) _ cap L rfl rfl hL2 (fun h => by cases h) (by simp; omega) (by simp) ?_; intro a3 n3 c3 w3 ho hg hn hc; clear hL2)
  have hn' : n3 = L.length := by simpa using hn
  subst hn'
  have hB3 : Hid (Below w.heap.size w w3) := ((Below.refl _ _).alloc (Nat.le_refl _) _).trans hg
  have ho3 : OwnE w.heap.size (.slice a3 L.length c3) L w3 := ho
  clear ho hg hn hc
  rcases ho3.form with ⟨hv, hM⟩ | ⟨g, cap', hv, -⟩
  · rw [hM] at h1; simp at h1
  · cases hv
    go_ret
    exact ⟨_, _, rfl, ho3, hB3.out⟩

theorem OwnE.take {base g cap : Nat} {L : List AEnt} {W : World} (h : OwnE base (.slice (some ⟨g, 0, none⟩) L.length cap) L W) {i : Nat} (hi : i ≤ L.length) : W.ownsRow base 38 4 (.slice (some ⟨g, 0, none⟩) i cap) i (flat (L.take i)) := by
  have e : flat (L.take i) = (flat L).take (i * 4) := by
    have h1 : flat L = flat (L.take i) ++ flat (L.drop i) := by rw [← flat_append, List.take_append_drop]
    have h2 : (flat (L.take i)).length = i * 4 := by rw [flat_len, List.length_take, Nat.min_eq_left hi]
    rw [h1, ← h2, List.take_left']
    rfl
  refine ⟨by rw [flat_len, List.length_take, Nat.min_eq_left hi], ?_⟩
  rcases h.2 with ⟨h, _⟩ | ⟨g', cap', cur, hv, hg, hh, hn, hcm, hcs, ht⟩
  · cases h
  · cases hv
    exact Or.inr ⟨g, cap, cur, rfl, hg, hh, by omega, hcm, hcs, by rw [e, ← ht, List.take_take, Nat.min_eq_left (by omega)]⟩

theorem step_fits {ops : Array Oper} {o : Oper} {act : Act} {w : World} {K : Act → World → Prop} {Q : Exit → Act → World → Prop} {E : Prop} (d : Option Tmp) (hd : o.dst = d) (hgd : o.guard = none) (s x : Operand)
    (ho : o.op = .call { callee := .builtin .append, args := #[s, x], argTypes := #[25, 25] })
    (base g cap : Nat) (L : List AEnt) (i : Nat) (hs : act.eval s = .slice (some ⟨g, 0, none⟩) i cap) (hown : OwnE base (.slice (some ⟨g, 0, none⟩) L.length cap) L w) (hi : i ≤ L.length)
    (A : Addr) (m c : Nat) (N : List AEnt) (hx : act.eval x = .slice (some A) m c) (hmN : m = N.length) (hN : EntsAt w (some A) N) (hroom : i + N.length ≤ cap) (r : Nat) (hr0 : i + m = r)
    (h : ∀ w', OwnE base (.slice (some ⟨g, 0, none⟩) r cap) (L.take i ++ N) w' → w.grownBy w' (some g) → K (act.put d (.slice (some ⟨g, 0, none⟩) r cap)) w') :
    if Region.wanted o (yielded ops act.tmps) = true then Oper.wp Try.prog o act w K Q else E := by
  subst hd
  have hw : Region.wanted o (yielded ops act.tmps) = true := by simp [Region.wanted, hgd]
  rw [if_pos hw]
  obtain ⟨i0, hi0, hz, hsz, hby⟩ := Try.info38
  subst hr0
  subst hmN
  have hnews : ∀ j u, (flat N)[j]? = some u → w.cell? (A.add j) = some u := by
    by_cases he : N = []
    · subst he
      intro j u hu
      simp [flat] at hu
    · have hN' := hN
      rcases hN with h | ⟨b, o, e, _⟩
      · exact absurd h he
      · cases e
        exact flat_cells hN'
  obtain ⟨w', hr, h1, h2⟩ := run_append_fits (P := Try.prog) w base 25 o.type 38 i0 4 Try.underlying25 hi0 hsz g i cap (flat (L.take i)) (hown.take hi) A N.length c (flat N) (flat_len N) hnews (flat_one N) hroom
  have h3 : OwnE base (.slice (some ⟨g, 0, none⟩) (i + N.length) cap) (L.take i ++ N) w' := by
    unfold OwnE
    rw [flat_append, List.length_append, List.length_take, Nat.min_eq_left hi]
    exact h1
  unfold Oper.wp
  simp [execOp, ho, resolve, invoke, builtin, hs, hx, hr, Result.andThen]
  exact h w' h3 h2

/-- 'clear' of one entry. -/
theorem run_clear_one (w : World) (ty : TypeId) (g o c : Nat) (ht : w.there g o 4) :
    (Builtin.clear_ #[25] ty #[.slice (some ⟨g, o, none⟩) 1 c]).run Try.prog w = .ok (.tuple #[]) (w.setCells g o [.int .i64 0, .int .i64 0, .string ⟨#[]⟩, .int .i64 0]) := by
  obtain ⟨i0, hi0, hz, hsz, hby⟩ := Try.info38
  have hv : (zeroValue 38).run Try.prog w = .ok (.agg #[.int .i64 0, .int .i64 0, .string ⟨#[]⟩, .int .i64 0]) w := by simp [zeroValue, typeInfo, hi0, hz]
  have hzc : (Builtin.zeroCells (Value.agg #[.int .i64 0, .int .i64 0, .string ⟨#[]⟩, .int .i64 0]).cells 1).toList = [.int .i64 0, .int .i64 0, .string ⟨#[]⟩, .int .i64 0] := by
    simp [Builtin.zeroCells, Value.cells, List.range_succ]
  have hst := run_storeCells_cells (P := Try.prog) g o [.int .i64 0, .int .i64 0, .string ⟨#[]⟩, .int .i64 0] 0 w (fun j hj => (ht j hj).1) (fun j hj => (ht j hj).2) (by simp; exact ⟨rfl, rfl, rfl⟩)
  simp only [Nat.add_zero] at hst
  simp [Builtin.clear_, run_underlying Try.underlying25, hv, hzc, hst]

end Go.Proofs.Ytobblnlefhkanaa
