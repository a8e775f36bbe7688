/- The contract of slices.Delete at one entry, over the seat's translation. -/
import Derived.Test.YtobblnlefhkanaaIxD1
namespace Go.Proofs.Ytobblnlefhkanaa
open Go.RowKit

set_option maxRecDepth 100000 in
set_option maxHeartbeats 4000000 in
theorem own_there {base g n cap : Nat} {L : List AEnt} {W : World} (h : OwnE base (.slice (some ⟨g, 0, none⟩) n cap) L W) : EntsAt W (some ⟨g, 0, none⟩) L ∧ W.there g 0 (cap * 4) := by
  rcases h.form with ⟨h, _⟩ | ⟨b, c, h, h1, h2, h3, h4, h5, h6⟩
  · cases h
  · cases h
    exact ⟨h5, h6⟩

theorem ents_set {W : World} {g o : Nat} {vs : List Value} {N : List AEnt} (h : EntsAt W (some ⟨g, 0, none⟩) N) (ho : N.length * 4 ≤ o) : EntsAt (W.setCells g o vs) (some ⟨g, 0, none⟩) N := by
  rcases h with h | ⟨b, o', e, hlt, hr⟩
  · exact Or.inl h
  · cases e
    refine Or.inr ⟨g, 0, rfl, by rw [size_sets]; exact hlt, fun i c hc => World.rangeAt_setCells_apart (hr i c hc) _ _ _ (Or.inr (Or.inl ?_))⟩
    have hi := (List.getElem?_eq_some_iff.1 hc).1
    have : c.cells.length = 4 := rfl
    omega
theorem below_setC {C B : Nat} {w W : World} (h : Below C w W) (hC : C ≤ B) (o : Nat) (vs : List Value) : Below C w (W.setCells B o vs) := by
  induction vs generalizing o W with
  | nil => exact h
  | cons v r ih => exact ih (h.setCell hC v) _

set_option maxRecDepth 100000 in
set_option maxHeartbeats 4000000 in
theorem delete_entries (g cap i r : Nat) (M : List AEnt) (hM : M.length = r + 1) (w : World) (base : Nat) (hO : OwnE base (.slice (some ⟨g, 0, none⟩) M.length cap) M w) (hi : i ≤ r) (hl : M.length ≤ 1048576) (hbs : base ≤ w.heap.size) :
    Calls Try.prog 62 #[.slice (some ⟨g, 0, none⟩) (r + 1) cap, .int .i64 i, .int .i64 ((i : Int) + 1)] w
      fun e w' => ∃ v, e = .returned v ∧ RowE base v (M.take i ++ M.drop (i + 1)) w' ∧ Below base w w' := by
  obtain ⟨hbg, hgl, hcl, hcm, hE, hT⟩ : base ≤ g ∧ g < w.heap.size ∧ M.length ≤ cap ∧ cap ≤ maxLen ∧ EntsAt w (some ⟨g, 0, none⟩) M ∧ w.there g 0 (cap * 4) := by
    rcases hO.form with ⟨h, _⟩ | ⟨b, c, h, h1, h2, h3, h4, h5, h6⟩
    · cases h
    · cases h
      exact ⟨h1, h2, h3, h4, h5, h6⟩
  have hne : ((i : Int) == (i : Int) + 1) = false := by simp; omega
  have hi1 : (i : Int) + 1 ≤ (r : Int) + 1 := by omega
  have hi2 : (0 : Int) ≤ (i : Int) + 1 := by omega
  have hi3 : i ≤ cap := by omega
  have hr3 : r ≤ cap := by omega
  have hr4 : r + 1 ≤ cap := by omega
  have hr5 : ¬ cap = r := by omega
  have hO' : OwnE base (.slice (some ⟨g, 0, none⟩) M.length cap) M w.drew := hO
  have hlen : Hid ((M.take i ++ M.drop (i + 1)).length = r) := by show (M.take i ++ M.drop (i + 1)).length = r; simp; omega
  have hl2 : r ≤ 1048576 := by omega
  have hdr' : EntsAt w.drew (some ⟨g, (i + 1) * 4, none⟩) (M.drop (i + 1)) := by simpa using ents_drop (hE.keep ((Below.refl _ _).drew)) (i + 1)
  by_cases hce : cap = i + 1
  · have hir : r = i := by omega
    subst hir
    subst hce
    go_enter Try.func62, Try.ntmps62
    go_wp2_with fail
    go_region_held_law (fun W => w.heap.size ≤ W.heap.size) (first | assumption | exact Nat.le_refl _ | exact Nat.le_trans (by assumption) (World.grownBy.size (by assumption)))
      (first
        | (refine step_fits (some 26) rfl rfl _ _ rfl base g (r + 1) M r rfl hO' (by omega) _ _ _ (M.drop (r + 1)) rfl (by simp <;> omega) (Or.inl (by simp <;> omega)) (by simp <;> omega) r (by omega) ?_; intro w3 ho3 hg3; (try simp only [Act.put, List.setIfInBounds_toArray, List.set_cons_zero, List.set_cons_succ])))
    have hF : Hid (OwnE base (.slice (some ⟨g, 0, none⟩) r (r + 1)) (M.take r ++ M.drop (r + 1)) w3 ∧ Below base w w3) := ⟨ho3, ((Below.refl base w).drew).grown hg3 hbs (fun k hk => by cases hk; exact hbg)⟩
    have hgl3 : Hid (g < w3.heap.size) := Nat.lt_of_lt_of_le hgl hg3.size
    have ht3 : w3.there g (r * 4) 4 := fun j hj => by
      have := (own_there ho3).2 (r * 4 + j) (by omega)
      rwa [Nat.zero_add] at this
    have hcl : ∀ ty c, (Builtin.clear_ #[25] ty #[.slice (some ⟨g, r * 4, none⟩) 1 c]).run Try.prog w3 = .ok (.tuple #[]) (w3.setCells g (r * 4) [.int .i64 0, .int .i64 0, .string ⟨#[]⟩, .int .i64 0]) := fun ty c => run_clear_one w3 ty g (r * 4) c ht3
    clear ho3 hg3 ht3 hO'
    go_wp2_with fail
    go_ret
    refine ⟨_, rfl, Or.inr ⟨g, (r + 1), by rw [hlen.out]; rfl, hbg, by rw [size_sets]; exact hgl3.out, by rw [hlen.out]; exact hr3, ents_set (own_there hF.out.1).1 (by rw [hlen.out]; exact Nat.le_refl _), ?_⟩, below_setC hF.out.2 hbg _ _⟩
    rw [hlen.out]
    exact World.there_setCells (fun j hj => (own_there hF.out.1).2 j (by omega)) _ _ _
  · go_enter Try.func62, Try.ntmps62
    go_wp2_with fail
    go_region_held_law (fun W => w.heap.size ≤ W.heap.size) (first | assumption | exact Nat.le_refl _ | exact Nat.le_trans (by assumption) (World.grownBy.size (by assumption)))
      (first
        | (refine step_fits (some 26) rfl rfl _ _ rfl base g cap M i rfl hO' (by omega) _ _ _ (M.drop (i + 1)) rfl (by simp <;> omega) hdr' (by simp <;> omega) r (by omega) ?_; intro w3 ho3 hg3; (try simp only [Act.put, List.setIfInBounds_toArray, List.set_cons_zero, List.set_cons_succ])))
    have hF : Hid (OwnE base (.slice (some ⟨g, 0, none⟩) r cap) (M.take i ++ M.drop (i + 1)) w3 ∧ Below base w w3) := ⟨ho3, ((Below.refl base w).drew).grown hg3 hbs (fun k hk => by cases hk; exact hbg)⟩
    have hgl3 : Hid (g < w3.heap.size) := Nat.lt_of_lt_of_le hgl hg3.size
    have ht3 : w3.there g (r * 4) 4 := fun j hj => by
      have := (own_there ho3).2 (r * 4 + j) (by omega)
      rwa [Nat.zero_add] at this
    have hcl : ∀ ty c, (Builtin.clear_ #[25] ty #[.slice (some ⟨g, r * 4, none⟩) 1 c]).run Try.prog w3 = .ok (.tuple #[]) (w3.setCells g (r * 4) [.int .i64 0, .int .i64 0, .string ⟨#[]⟩, .int .i64 0]) := fun ty c => run_clear_one w3 ty g (r * 4) c ht3
    clear ho3 hg3 ht3 hO'
    go_wp2_with fail
    go_ret
    refine ⟨_, rfl, Or.inr ⟨g, cap, by rw [hlen.out]; rfl, hbg, by rw [size_sets]; exact hgl3.out, by rw [hlen.out]; exact hr3, ents_set (own_there hF.out.1).1 (by rw [hlen.out]; exact Nat.le_refl _), ?_⟩, below_setC hF.out.2 hbg _ _⟩
    rw [hlen.out]
    exact World.there_setCells (fun j hj => (own_there hF.out.1).2 j (by omega)) _ _ _

end Go.Proofs.Ytobblnlefhkanaa
