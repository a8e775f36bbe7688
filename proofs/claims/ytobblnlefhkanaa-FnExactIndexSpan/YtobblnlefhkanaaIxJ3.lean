/- slices.Insert of one entry where there is no room, over the seat's translation. -/
import Derived.Test.YtobblnlefhkanaaIxJ2
import Derived.Laws.NewBlocks
namespace Go.Proofs.Ytobblnlefhkanaa
open Go.RowKit

/-- x is laid at i, and what stood from i on behind it. -/
theorem laid_ents {W : World} {g i : Nat} {M : List AEnt} {x : AEnt} (hE : EntsAt W (some ⟨g, 0, none⟩) (M.take i)) (hg : g < W.heap.size) (hi : i ≤ M.length) (ht : W.there g 0 ((M.length + 1) * 4)) :
    EntsAt ((W.setCells g (i * 4) (flat [x])).setCells g ((i + 1) * 4) (flat (M.drop i))) (some ⟨g, 0, none⟩) (M.take i ++ x :: M.drop i) := by
  have hl1 : (flat (M.drop i)).length = (M.length - i) * 4 := by rw [flat_len, List.length_drop]
  have hl2 : (flat [x]).length = 4 := rfl
  have ht1 : (W.setCells g (i * 4) (flat [x])).there g 0 ((M.length + 1) * 4) := World.there_setCells ht _ _ _
  refine ents_of (by rw [size_sets, size_sets]; exact hg) fun j u hu => ?_
  rw [Nat.zero_add]
  have e : flat (M.take i ++ x :: M.drop i) = flat (M.take i) ++ (flat [x] ++ flat (M.drop i)) := by
    rw [show M.take i ++ x :: M.drop i = M.take i ++ ([x] ++ M.drop i) from rfl, flat_append, flat_append]
  have hl0 : (flat (M.take i)).length = i * 4 := by rw [flat_len, List.length_take, Nat.min_eq_left hi]
  rw [e] at hu
  by_cases h1 : j < i * 4
  · rw [World.cell?_setCells_out _ _ _ _ _ (fun _ _ => Or.inl (by show j < (i + 1) * 4; omega)), World.cell?_setCells_out _ _ _ _ _ (fun _ _ => Or.inl h1)]
    rw [List.getElem?_append_left (by omega)] at hu
    have := flat_cells hE j u hu
    rwa [Addr.add_mid, Nat.zero_add] at this
  · by_cases h2 : j < (i + 1) * 4
    · rw [List.getElem?_append_right (by omega), hl0, List.getElem?_append_left (by omega)] at hu
      rw [World.cell?_setCells_out _ _ _ _ _ (fun _ _ => Or.inl h2)]
      have := World.cell?_setCells_in g (flat [x]) (i * 4) W (fun t ht' => (there_at ht (by omega) t (by omega : t < 4)).1) (j - i * 4) (by omega)
      rw [show i * 4 + (j - i * 4) = j by omega] at this
      rw [this, ← hu, List.getElem?_eq_getElem (by omega)]
    · rw [List.getElem?_append_right (by omega), hl0, List.getElem?_append_right (by omega), hl2] at hu
      have hj := (List.getElem?_eq_some_iff.1 hu).1
      have := World.cell?_setCells_in g (flat (M.drop i)) ((i + 1) * 4) (W.setCells g (i * 4) (flat [x])) (fun t ht' => (there_at ht1 (by omega : (i + 1) * 4 + (M.length - i) * 4 ≤ (M.length + 1) * 4) t (by omega)).1) (j - i * 4 - 4) hj
      rw [show (i + 1) * 4 + (j - i * 4 - 4) = j by omega] at this
      rw [this, ← hu, List.getElem?_eq_getElem hj]

set_option maxRecDepth 100000 in
set_option maxHeartbeats 4000000 in
theorem insert_grow (g cap vb i : Nat) (M : List AEnt) (x : AEnt) (w : World) (base : Nat) (hO : OwnE base (.slice (some ⟨g, 0, none⟩) M.length cap) M w) (hi : i < M.length) (hroom : cap < M.length + 1) (hl : M.length ≤ 1048576) (hbs : base ≤ w.heap.size) (hx : OneE vb x w) :
    Calls Try.prog 56 #[.slice (some ⟨g, 0, none⟩) M.length cap, .int .i64 i, .slice (some ⟨vb, 0, none⟩) 1 1] w
      fun e w' => ∃ v, e = .returned v ∧ RowE base v (M.take i ++ x :: M.drop i) w' ∧ OnlyE (some ⟨g, 0, none⟩) w w' := by
  obtain ⟨i0, hi0, hz, hsz, hby⟩ := Try.info38
  obtain ⟨hbg, hgl, hcl, hE⟩ : base ≤ g ∧ g < w.heap.size ∧ M.length ≤ cap ∧ EntsAt w (some ⟨g, 0, none⟩) M := by
    rcases hO.form with ⟨h, _⟩ | ⟨b, c, h, h1, h2, h3, h4, h5, h6⟩
    · cases h
    · cases h
      exact ⟨h1, h2, h3, h5⟩
  have hvl := hx.lt
  have hold : (Builtin.firstCells i0.size i (.slice (some ⟨g, 0, none⟩) i cap)).run Try.prog w.drew = .ok (flat (M.take i)).toArray w.drew := by
    rw [hsz]
    exact run_firstCells_some w.drew 4 i ⟨g, 0, none⟩ i cap (flat (M.take i)) (by rw [flat_len, List.length_take, Nat.min_eq_left (Nat.le_of_lt hi)]) (flat_cells (ents_take (hE.keep ((Below.refl _ _).drew)) i))
  have hik : i + (M.length + 1 - i) = M.length + 1 := by omega
  have hkk : (M.length : Int) + 1 - (i : Int) = ((M.length + 1 - i : Nat) : Int) := by omega
  have hfit : Builtin.nextslicecap (M.length + 1) cap * i0.bytes ≤ 281474976710656 := growslice_fits hroom (by
    have : (M.length + 1) * i0.bytes ≤ 1048577 * 128 := Nat.mul_le_mul (by omega) hby
    omega)
  have hrz : ∀ ty, (Builtin.append_ #[25, 3] ty #[.slice (some ⟨g, 0, none⟩) i cap, .int .i64 ((M.length : Int) + 1 - (i : Int))]).run Try.prog w =
      .ok (.slice (some ⟨w.heap.size, 0, none⟩) (M.length + 1) (grownCap w (M.length + 1) cap 38)) (w.drew.alloc (.cells ((flat (M.take i)).toArray ++ Builtin.zeroCells (Value.agg #[.int .i64 0, .int .i64 0, .string ⟨#[]⟩, .int .i64 0]).cells (M.length + 1 - i) ++ Builtin.zeroCells (Value.agg #[.int .i64 0, .int .i64 0, .string ⟨#[]⟩, .int .i64 0]).cells (grownCap w (M.length + 1) cap 38 - (M.length + 1))) 38)) := fun ty => by
    have h := Lib.run_append_grow_zeros (P := Try.prog) w 25 3 ty 38 i0 _ .i64 .i64 Try.underlying25 Try.underlying3 hi0 hz (some ⟨g, 0, none⟩) i cap (flat (M.take i)) hold (M.length + 1 - i) (by omega) (by omega) (by omega) (by omega)
      (by have : (M.length + 1 - i) * i0.bytes ≤ 1048577 * 128 := Nat.mul_le_mul (by omega) hby
          omega) (by rw [hik]; exact hfit)
    rw [hik] at h
    rw [hkk]
    exact h
  obtain ⟨G, hG⟩ : ∃ G, G = grownCap w (M.length + 1) cap 38 := ⟨_, rfl⟩
  have hGn : M.length + 1 ≤ G := by rw [hG]; exact grownCap_ge w _ _ _
  have hG63 : G ≤ 9223372036854775807 := by
    have := grownCap_le_maxLen w (M.length + 1) cap 38 (by unfold maxLen; omega)
    rw [← hG] at this
    unfold maxLen at this
    omega
  rw [← hG] at hrz
  obtain ⟨W1, hW1⟩ : ∃ W1, W1 = (w.drew.alloc (.cells ((flat (M.take i)).toArray ++ Builtin.zeroCells (Value.agg #[.int .i64 0, .int .i64 0, .string ⟨#[]⟩, .int .i64 0]).cells (M.length + 1 - i) ++ Builtin.zeroCells (Value.agg #[.int .i64 0, .int .i64 0, .string ⟨#[]⟩, .int .i64 0]).cells (G - (M.length + 1))) 38)) := ⟨_, rfl⟩
  rw [← hW1] at hrz
  have hb1 : Below w.heap.size w W1 := by rw [hW1]; exact ((Below.refl _ _).drew).alloc (Nat.le_refl _) _
  have hz1 : W1.heap.size = w.heap.size + 1 := by rw [hW1, size_alloc]; rfl
  have hcell : ∀ j, W1.cell? ⟨w.heap.size, j, none⟩ = ((flat (M.take i)).toArray ++ Builtin.zeroCells (Value.agg #[.int .i64 0, .int .i64 0, .string ⟨#[]⟩, .int .i64 0]).cells (M.length + 1 - i) ++ Builtin.zeroCells (Value.agg #[.int .i64 0, .int .i64 0, .string ⟨#[]⟩, .int .i64 0]).cells (G - (M.length + 1)))[j]? := fun j => by
    rw [hW1, World.cell?_alloc_at (w := w.drew) _ _ w.heap.size j rfl]
  have hzl : (Builtin.zeroCells (Value.agg #[.int .i64 0, .int .i64 0, .string ⟨#[]⟩, .int .i64 0]).cells (M.length + 1 - i)).size = (M.length + 1 - i) * 4 := by simp [Builtin.zeroCells, Value.cells]
  have hfl : (flat (M.take i)).length = i * 4 := by rw [flat_len, List.length_take, Nat.min_eq_left (Nat.le_of_lt hi)]
  have hT1 : W1.there w.heap.size 0 ((M.length + 1) * 4) := fun j hj => by
    rw [Nat.zero_add]
    refine ⟨?_, by rw [hW1]; exact World.frozen?_alloc_at (w := w.drew) _ _ w.heap.size j rfl⟩
    rw [hcell, Array.getElem?_eq_getElem (by simp only [Array.size_append, List.size_toArray, hfl, hzl]; omega)]
    rfl
  have hE1 : EntsAt W1 (some ⟨w.heap.size, 0, none⟩) (M.take i) := ents_of (by omega) fun j u hu => by
    have hj := (List.getElem?_eq_some_iff.1 hu).1
    rw [Nat.zero_add, hcell, Array.getElem?_append_left (by simp only [Array.size_append, List.size_toArray]; omega), Array.getElem?_append_left (by simpa using hj)]
    simpa using hu
  clear hcell hzl hfl hold hfit hik hkk hW1 hG
  have hx1 : EntsAt W1 (some ⟨vb, 0, none⟩) [x] := hx.ents.keep hb1
  have hg1 : EntsAt W1 (some ⟨g, 0, none⟩) M := hE.keep hb1
  have hm1 : [x].length = Nat.min 1 (M.length + 1 - i) := by simp [Nat.min_def]; omega
  have ht1 : W1.there w.heap.size (i * 4) ([x].length * 4) := there_at hT1 (by simp; omega)
  have hcpA : ∀ ty dc, (Builtin.copy_ #[25, 25] ty #[.slice (some ⟨w.heap.size, i * 4, none⟩) (M.length + 1 - i) dc, .slice (some ⟨vb, 0, none⟩) 1 1]).run Try.prog W1 = .ok (goInt [x].length) (W1.setCells w.heap.size (i * 4) (flat [x])) := fun ty dc => run_copy_ents W1 ty w.heap.size (i * 4) _ _ ⟨vb, 0, none⟩ _ _ [x] hm1 hx1 ht1
  obtain ⟨W2, hW2⟩ : ∃ W2, W2 = W1.setCells w.heap.size (i * 4) (flat [x]) := ⟨_, rfl⟩
  have HW2 : Hid (W2 = W1.setCells w.heap.size (i * 4) (flat [x])) := hW2
  rw [← hW2] at hcpA
  have hg2 : EntsAt W2 (some ⟨g, i * 4, none⟩) (M.drop i) := by
    have h0 : EntsAt W2 (some ⟨g, 0, none⟩) M := by
      rcases hg1 with h | ⟨b, o, e, hlt, hr⟩
      · exact Or.inl h
      · cases e
        refine Or.inr ⟨g, 0, rfl, by rw [hW2, size_sets]; exact hlt, fun k c hc j u hu => ?_⟩
        rw [hW2, World.cell?_setCells_out _ _ _ _ _ (fun h _ => absurd h (by show g ≠ w.heap.size; omega))]
        exact hr k c hc j u hu
    simpa using ents_drop h0 i
  have hT2 : W2.there w.heap.size 0 ((M.length + 1) * 4) := by rw [hW2]; exact World.there_setCells hT1 _ _ _
  have hne : ((i : Int) == (M.length : Int)) = false := by simp; omega
  have hrm : (cap : Int) < (M.length : Int) + 1 := by omega
  have hic : i ≤ cap := by omega
  have hci : ¬ cap = i := by omega
  have hGi : ¬ G = i := by omega
  have hGi1 : ¬ G = i + 1 := by omega
  have hiG : (i : Int) ≤ (M.length : Int) + 1 := by omega
  have hiG1 : (i : Int) + 1 ≤ (M.length : Int) + 1 := by omega
  have hwk : IntKind.i64.wrap ((i : Int) + 1) = (i : Int) + 1 := by
    simp [IntKind.wrap, IntKind.bits, IntKind.signed]
    omega
  have hg2d : EntsAt W2.drew (some ⟨g, i * 4, none⟩) (M.drop i) := hg2
  have hT2d : W2.drew.there w.heap.size 0 ((M.length + 1) * 4) := hT2
  clear hx1 hg1 hm1 ht1 hW2
  go_enter Try.func56, Try.ntmps56
  go_wp2_with (at_builtin; refine Lib.wpList_append_run _ rfl _ _ _ _ rfl _ _ rfl rfl _ _ (hrz _) ?_)
  go_region_held_law (fun _ => True) (trivial)
    (first
      | (refine step_copy (some 54) rfl rfl _ _ rfl w.heap.size ((i + 1) * 4) _ _ ⟨g, i * 4, none⟩ _ _ rfl rfl (M.drop i) (by simp [Nat.min_def] <;> omega) hg2d (there_at hT2d (by simp; omega)) ?_; (try simp only [Act.put, List.setIfInBounds_toArray, List.set_cons_zero, List.set_cons_succ])))
  all_goals
    have hlen : Hid ((M.take i ++ x :: M.drop i).length = M.length + 1) := by show (M.take i ++ x :: M.drop i).length = M.length + 1; simp; omega
    obtain ⟨W3, hW3⟩ : ∃ W3, W3 = W2.drew.setCells w.heap.size ((i + 1) * 4) (flat (M.drop i)) := ⟨_, rfl⟩
    rw [← hW3]
    have HF : Hid (EntsAt W3 (some ⟨w.heap.size, 0, none⟩) (M.take i ++ x :: M.drop i) ∧ W3.there w.heap.size 0 ((M.length + 1) * 4) ∧ w.heap.size < W3.heap.size ∧ OnlyE (some ⟨g, 0, none⟩) w W3) := by
      rw [hW3, HW2.out]
      refine ⟨laid_ents (W := W1.drew) (hE1.keep ((Below.refl _ _).drew)) (by show w.heap.size < W1.heap.size; omega) (Nat.le_of_lt hi) hT1, World.there_setCells (show (W1.setCells w.heap.size (i * 4) (flat [x])).drew.there w.heap.size 0 ((M.length + 1) * 4) from World.there_setCells hT1 _ _ _) _ _ _, ?_, onlyE_new (below_setC (below_setC hb1 (Nat.le_refl _) _ _).drew (Nat.le_refl _) _ _)⟩
      rw [size_sets]
      show w.heap.size < (W1.setCells w.heap.size (i * 4) (flat [x])).heap.size
      rw [size_sets]; omega
    clear hW3 HW2 hg2 hT2 hg2d hT2d hE1 hT1 hb1 hE
    go_wp2_with fail
    go_ret
    exact ⟨_, rfl, Or.inr ⟨w.heap.size, G, by rw [hlen.out]; rfl, hbs, HF.out.2.2.1, by rw [hlen.out]; exact hGn, HF.out.1, by rw [hlen.out]; exact HF.out.2.1⟩, HF.out.2.2.2⟩

end Go.Proofs.Ytobblnlefhkanaa
