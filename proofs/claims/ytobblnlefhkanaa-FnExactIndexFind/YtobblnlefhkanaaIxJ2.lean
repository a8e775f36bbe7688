/- slices.Insert of one entry where there is room, over the seat's translation. -/
import Derived.Test.YtobblnlefhkanaaIxJ1
import Derived.Laws.Externs
namespace Go.Proofs.Ytobblnlefhkanaa
open Go.RowKit

theorem there_at {W : World} {g o n k : Nat} (h : W.there g 0 n) (hk : o + k ≤ n) : W.there g o k := fun j hj => by
  have := h (o + j) (by omega)
  rwa [Nat.zero_add] at this

/-- What stands from i on goes one further, and x takes the place. -/
theorem shift_ents {W : World} {g i : Nat} {M : List AEnt} {x : AEnt} (hE : EntsAt W (some ⟨g, 0, none⟩) M) (hg : g < W.heap.size) (hi : i ≤ M.length) (ht : W.there g 0 ((M.length + 1) * 4)) :
    EntsAt ((W.setCells g ((i + 1) * 4) (flat (M.drop i))).setCells g (i * 4) (flat [x])) (some ⟨g, 0, none⟩) (M.take i ++ x :: M.drop i) := by
  have hl1 : (flat (M.drop i)).length = (M.length - i) * 4 := by rw [flat_len, List.length_drop]
  have hl2 : (flat [x]).length = 4 := rfl
  have ht1 : (W.setCells g ((i + 1) * 4) (flat (M.drop i))).there g 0 ((M.length + 1) * 4) := World.there_setCells ht _ _ _
  refine ents_of (by rw [size_sets, size_sets]; exact hg) fun j u hu => ?_
  rw [Nat.zero_add]
  have e : flat (M.take i ++ x :: M.drop i) = flat (M.take i) ++ (flat [x] ++ flat (M.drop i)) := by
    rw [show M.take i ++ x :: M.drop i = M.take i ++ ([x] ++ M.drop i) from rfl, flat_append, flat_append]
  have hl0 : (flat (M.take i)).length = i * 4 := by rw [flat_len, List.length_take, Nat.min_eq_left hi]
  rw [e] at hu
  by_cases h1 : j < i * 4
  · rw [World.cell?_setCells_out _ _ _ _ _ (fun _ _ => Or.inl h1), World.cell?_setCells_out _ _ _ _ _ (fun _ _ => Or.inl (by show j < (i + 1) * 4; omega))]
    rw [List.getElem?_append_left (by omega)] at hu
    have := flat_cells (ents_take hE i) j u hu
    rwa [Addr.add_mid, Nat.zero_add] at this
  · by_cases h2 : j < (i + 1) * 4
    · rw [List.getElem?_append_right (by omega), hl0, List.getElem?_append_left (by omega)] at hu
      have := World.cell?_setCells_in g (flat [x]) (i * 4) (W.setCells g ((i + 1) * 4) (flat (M.drop i))) (fun t ht' => (there_at ht1 (by omega) t (by omega : t < 4)).1) (j - i * 4) (by omega)
      rw [show i * 4 + (j - i * 4) = j by omega] at this
      rw [this, ← hu, List.getElem?_eq_getElem (by omega)]
    · rw [List.getElem?_append_right (by omega), hl0, List.getElem?_append_right (by omega), hl2] at hu
      have hj := (List.getElem?_eq_some_iff.1 hu).1
      rw [World.cell?_setCells_out _ _ _ _ _ (fun _ _ => Or.inr (by show i * 4 + (flat [x]).length ≤ j; omega))]
      have := World.cell?_setCells_in g (flat (M.drop i)) ((i + 1) * 4) W (fun t ht' => (there_at ht (by omega : (i + 1) * 4 + (M.length - i) * 4 ≤ (M.length + 1) * 4) t (by omega)).1) (j - i * 4 - 4) hj
      rw [show (i + 1) * 4 + (j - i * 4 - 4) = j by omega] at this
      rw [this, ← hu, List.getElem?_eq_getElem hj]

set_option maxRecDepth 100000 in
set_option maxHeartbeats 4000000 in
theorem insert_room (g cap vb i : Nat) (M : List AEnt) (x : AEnt) (w : World) (base : Nat) (hO : OwnE base (.slice (some ⟨g, 0, none⟩) M.length cap) M w) (hi : i < M.length) (hroom : M.length + 1 ≤ cap) (hl : M.length ≤ 1048576) (_hbs : base ≤ w.heap.size) (hx : OneE vb x w) (hgv : g < vb) :
    Calls Try.prog 56 #[.slice (some ⟨g, 0, none⟩) M.length cap, .int .i64 i, .slice (some ⟨vb, 0, none⟩) 1 1] w
      fun e w' => ∃ v, e = .returned v ∧ RowE base v (M.take i ++ x :: M.drop i) w' ∧ OnlyE (some ⟨g, 0, none⟩) w w' := by
  obtain ⟨hE, hT⟩ := own_there hO
  obtain ⟨cur, hgc, hbg, hcs, hcm⟩ : ∃ cur, w.heap[g]? = some (.cells cur 38 (0, 0)) ∧ base ≤ g ∧ cur.size = cap * 4 ∧ cap ≤ maxLen := by
    rcases hO.2 with ⟨h, _⟩ | ⟨g', c', cur, h, hb, hh, h1, h2, h3, h4⟩
    · cases h
    · cases h; exact ⟨cur, hh, hb, h3, h2⟩
  have hgl : g < w.heap.size := (Array.getElem?_eq_some_iff.1 hgc).1
  unfold maxLen at hcm
  have hsa : w.shape? vb = some (38, 4) := by simp [World.shape?, show w.heap[vb]? = _ from hx]
  have hsb : w.shape? g = some (38, cap * 4) := by simp [World.shape?, hgc, hcs]
  have hfa : w.frozen? ⟨vb, 0, none⟩ = false := by simp [World.frozen?, show w.heap[vb]? = _ from hx]
  have hfe : w.frozen? ⟨vb, 4, none⟩ = false := by simp [World.frozen?, show w.heap[vb]? = _ from hx]
  have hov : ∀ lb cb, (callFunc 65 #[.slice (some ⟨vb, 0, none⟩) 1 1, .slice (some ⟨g, (i + 1) * 4, none⟩) lb cb]).run Try.prog w = .ok (.value (.bool false)) w := fun lb cb => by
    rw [run_callFunc_extern Try.func65 (by kernel_rfl) (by kernel_rfl) (by kernel_rfl) (e := Extern.SlicesOverlaps.overlaps #[25, 25] #[4]) (by kernel_rfl),
      Lib.run_overlaps_apart w 25 4 38 Try.underlying25 4 Try.sizeOf38 ⟨vb, 0, none⟩ ⟨g, (i + 1) * 4, none⟩ 1 1 lb cb (by show vb ≠ g; omega) _ _ 4 (cap * 4) hsa hsb (by omega) hfa hfe]
    rfl
  have hne1 : ¬ cap = i + 1 := by omega
  have hne2 : ¬ cap = i := by omega
  have hd1 : EntsAt w.drew (some ⟨g, i * 4, none⟩) (M.drop i) := by simpa using ents_drop (hE.keep ((Below.refl _ _).drew)) i
  have hlt : (i : Int) < M.length := by omega
  have hii : (i : Int) + 1 ≤ (M.length : Int) + 1 := by omega
  have hwk : IntKind.i64.wrap ((i : Int) + 1) = (i : Int) + 1 := by
    simp [IntKind.wrap, IntKind.bits, IntKind.signed]
    omega
  have hTd : w.drew.there g 0 (cap * 4) := hT
  obtain ⟨W1, hW1⟩ : ∃ W1, W1 = w.drew.setCells g ((i + 1) * 4) (flat (M.drop i)) := ⟨_, rfl⟩
  have HW : Hid (W1 = w.drew.setCells g ((i + 1) * 4) (flat (M.drop i))) := hW1
  have hx1 : EntsAt W1 (some ⟨vb, 0, none⟩) [x] := by
    have h0 : EntsAt w.drew (some ⟨vb, 0, none⟩) [x] := hx.ents
    rcases h0 with h | ⟨b, o, e, hlt, hr⟩
    · exact Or.inl h
    · cases e
      refine Or.inr ⟨vb, 0, rfl, by rw [hW1, size_sets]; exact hlt, fun k c hc j u hu => ?_⟩
      rw [hW1, World.cell?_setCells_out _ _ _ _ _ (fun h _ => absurd h (by show vb ≠ g; omega))]
      exact hr k c hc j u hu
  have hT1 : W1.there g 0 (cap * 4) := by rw [hW1]; exact World.there_setCells hTd _ _ _
  clear hW1
  go_enter Try.func56, Try.ntmps56
  go_wp2_with fail
  go_region_held_law (fun _ => True) (trivial)
    (first
      | (refine step_copy (some 77) rfl rfl _ _ rfl g ((i + 1) * 4) _ _ ⟨g, i * 4, none⟩ _ _ rfl rfl (M.drop i) (by simp [Nat.min_def] <;> omega) hd1 (there_at hTd (by simp; omega)) ?_; (try simp only [Act.put, List.setIfInBounds_toArray, List.set_cons_zero, List.set_cons_succ]); rw [← HW.out]))
  all_goals
    have HF : Hid (EntsAt (W1.setCells g (i * 4) (flat [x])) (some ⟨g, 0, none⟩) (M.take i ++ x :: M.drop i) ∧ (W1.setCells g (i * 4) (flat [x])).there g 0 (cap * 4) ∧ g < (W1.setCells g (i * 4) (flat [x])).heap.size ∧ OnlyE (some ⟨g, 0, none⟩) w (W1.setCells g (i * 4) (flat [x]))) := by
      rw [HW.out]
      exact ⟨shift_ents (hE.keep ((Below.refl _ _).drew)) hgl (Nat.le_of_lt hi) (fun j hj => hTd j (by omega)), World.there_setCells (World.there_setCells hTd _ _ _) _ _ _, by rw [size_sets, size_sets]; exact hgl, fun G hG => by have e := hG g rfl; subst e; exact (((Turn.refl g w).next (Below.refl _ _).drew).sets _ _).sets _ _⟩
    have hlen : Hid ((M.take i ++ x :: M.drop i).length = M.length + 1) := by show (M.take i ++ x :: M.drop i).length = M.length + 1; simp; omega
    have hm1 : [x].length = Nat.min 1 (M.length + 1 - i) := by simp [Nat.min_def]; omega
    have ht1 : W1.there g (i * 4) ([x].length * 4) := there_at hT1 (by simp; omega)
    clear hd1 hTd hT1 hsa hsb hfa hfe hgc hcs hE hT hO
    have hcp : ∀ ty, (Builtin.copy_ #[25, 25] ty #[.slice (some ⟨g, i * 4, none⟩) (M.length + 1 - i) (cap - i), .slice (some ⟨vb, 0, none⟩) 1 1]).run Try.prog W1 = .ok (goInt [x].length) (W1.setCells g (i * 4) (flat [x])) := fun ty => run_copy_ents W1 ty g (i * 4) _ _ ⟨vb, 0, none⟩ _ _ [x] hm1 hx1 ht1
    clear hm1 hx1 ht1
    go_wp2_with fail
    go_ret
    exact ⟨_, rfl, Or.inr ⟨g, cap, by rw [hlen.out]; rfl, hbg, HF.out.2.2.1, by rw [hlen.out]; exact hroom, HF.out.1, fun j hj => HF.out.2.1 j (by rw [hlen.out] at hj; omega)⟩, HF.out.2.2.2⟩

end Go.Proofs.Ytobblnlefhkanaa
