/- Entries in memory of the call's own: the contracts of impl.fresh at entries, noEntries, entriesOf and IndexOk, over the seat's translation. -/
import Derived.Test.YtobblnlefhkanaaG05
import Derived.Maps.AppendAt
import Derived.OwnWalk
import Derived.Laws.OwnMore
import Derived.Laws.AppendOwnNone
import Derived.Laws.Tables
import Derived.Laws.EntriesVeiled
namespace Go.Proofs.Ytobblnlefhkanaa
open Go.RowKit

def flat (L : List AEnt) : List Value := L.flatMap AEnt.cells
theorem flat_len (L : List AEnt) : (flat L).length = L.length * 4 := by
  unfold flat
  induction L with
  | nil => rfl
  | cons c L ih =>
    have : c.cells.length = 4 := rfl
    rw [List.flatMap_cons, List.length_append, ih, List.length_cons]
    omega
theorem flat_at (L : List AEnt) (i j : Nat) (c : AEnt) (v : Value) (hc : L[i]? = some c) (hv : c.cells[j]? = some v) : (flat L)[i * 4 + j]? = some v := by
  unfold flat
  induction L generalizing i with
  | nil => simp at hc
  | cons d L ih =>
    have hl : d.cells.length = 4 := rfl
    rw [List.flatMap_cons]
    cases i with
    | zero =>
      simp at hc
      subst hc
      have hj : j < d.cells.length := (List.getElem?_eq_some_iff.1 hv).1
      rw [Nat.zero_mul, Nat.zero_add, List.getElem?_append_left hj]
      exact hv
    | succ i =>
      rw [List.getElem?_append_right (by omega), hl, show (i + 1) * 4 + j - 4 = i * 4 + j by omega]
      exact ih i (by simpa using hc)
theorem flat_one (L : List AEnt) : ∀ u ∈ flat L, u.oneCell' = true := by
  intro u hu
  obtain ⟨c, _, hc⟩ := List.mem_flatMap.1 hu
  simp [AEnt.cells] at hc
  rcases hc with rfl | rfl | rfl | rfl <;> rfl
theorem flat_get (L : List AEnt) (j : Nat) (u : Value) (h : (flat L)[j]? = some u) : ∃ c, L[j / 4]? = some c ∧ c.cells[j % 4]? = some u := by
  unfold flat at h
  induction L generalizing j with
  | nil => simp at h
  | cons d L ih =>
    have hl : d.cells.length = 4 := rfl
    rw [List.flatMap_cons] at h
    by_cases hj : j < 4
    · rw [List.getElem?_append_left (by omega)] at h
      exact ⟨d, by rw [Nat.div_eq_of_lt hj]; rfl, by rw [Nat.mod_eq_of_lt hj]; exact h⟩
    · rw [List.getElem?_append_right (by omega), hl] at h
      obtain ⟨c, h1, h2⟩ := ih (j - 4) h
      refine ⟨c, ?_, ?_⟩
      · rw [show j / 4 = (j - 4) / 4 + 1 by omega, List.getElem?_cons_succ]; exact h1
      · rw [show j % 4 = (j - 4) % 4 by omega]; exact h2
theorem flat_append (L M : List AEnt) : flat (L ++ M) = flat L ++ flat M := by unfold flat; exact List.flatMap_append
theorem flat_cells {W : World} {b o : Nat} {L : List AEnt} (h : EntsAt W (some ⟨b, o, none⟩) L) : ∀ j u, (flat L)[j]? = some u → W.cell? ((⟨b, o, none⟩ : Addr).add j) = some u := by
  intro j u hu
  obtain ⟨c, h1, h2⟩ := flat_get L j u hu
  rcases h with h | ⟨b', o', e, _, hr⟩
  · subst h; simp at h1
  · cases e
    have := hr _ c h1 _ u h2
    rw [Addr.add_mid]
    rwa [show o + j / 4 * 4 + j % 4 = o + j by omega] at this
theorem ents_of {W : World} {b o : Nat} {L : List AEnt} (hb : b < W.heap.size) (h : ∀ j u, (flat L)[j]? = some u → W.cell? ⟨b, o + j, none⟩ = some u) : EntsAt W (some ⟨b, o, none⟩) L :=
  Or.inr ⟨b, o, rfl, hb, fun i c hc j v hv => by rw [Nat.add_assoc]; exact h _ v (flat_at L i j c v hc hv)⟩

/-- The value is a slice of the entries L, in a row that came at base or behind, and may be written. -/
def OwnE (base : Nat) (v : Value) (L : List AEnt) (W : World) : Prop := W.ownsRow base 38 4 v L.length (flat L)
theorem OwnE.nil (base : Nat) (W : World) : OwnE base (.slice none 0 0) [] W := World.ownsRow_nil _ _ _ _
theorem OwnE.next {base : Nat} {v : Value} {L : List AEnt} {W W' : World} (h : OwnE base v L W) (hb : Below W.heap.size W W') : OwnE base v L W' := by
  refine ⟨h.1, ?_⟩
  rcases h.2 with h | ⟨g, cap, cur, hv, hg, hh, r⟩
  · exact Or.inl h
  · exact Or.inr ⟨g, cap, cur, hv, hg, by rw [hb.block g (Array.getElem?_eq_some_iff.1 hh).1]; exact hh, r⟩
/-- It is nothing, or a row. -/
theorem OwnE.form {base : Nat} {v : Value} {L : List AEnt} {W : World} (h : OwnE base v L W) : (v = .slice none 0 0 ∧ L = []) ∨
    ∃ b cap, v = .slice (some ⟨b, 0, none⟩) L.length cap ∧ base ≤ b ∧ b < W.heap.size ∧ L.length ≤ cap ∧ cap ≤ maxLen ∧ EntsAt W (some ⟨b, 0, none⟩) L ∧ W.there b 0 (cap * 4) := by
  have hown : W.ownsRow base 38 4 v L.length (flat L) := h
  obtain ⟨hl, h⟩ := h
  rcases h with ⟨rfl, h0⟩ | ⟨g, cap, cur, rfl, hg, hh, hn, hcm, hcs, ht⟩
  · exact Or.inl ⟨rfl, List.length_eq_zero_iff.1 h0⟩
  · have hlt : g < W.heap.size := (Array.getElem?_eq_some_iff.1 hh).1
    refine Or.inr ⟨g, cap, rfl, hg, hlt, hn, hcm, ents_of hlt fun j u hu => ?_, fun j hj => ⟨?_, World.ownsRow.frozenAt hown _⟩⟩
    · have := hown.cells (g := g) rfl j u hu
      rwa [Addr.add_mid] at this
    · rw [Nat.zero_add]
      simp only [World.cell?, hh]
      rw [Array.getElem?_eq_getElem (by omega)]
      rfl
theorem OwnE.slice {base : Nat} {v : Value} {L : List AEnt} {W : World} (h : OwnE base v L W) : ∃ a cap, v = .slice a L.length cap ∧ (a = none → cap = 0 ∧ L = []) ∧ EntsAt W a L := by
  rcases h.form with ⟨rfl, rfl⟩ | ⟨b, cap, rfl, _, _, _, _, he, _⟩
  · exact ⟨none, 0, rfl, fun _ => ⟨rfl, rfl⟩, Or.inl rfl⟩
  · exact ⟨_, cap, rfl, (fun h => by cases h), he⟩

set_option maxHeartbeats 1000000 in
theorem fresh_entries (a : Option Addr) (cap : Nat) (L : List AEnt) (w : World) (hL : EntsAt w a L) (h0 : a = none → cap = 0) (hl : L.length ≤ 1048576) :
    Calls Try.prog 51 #[.slice a L.length cap] w fun e w' => ∃ v, e = .returned v ∧ OwnE w.heap.size v L w' ∧ Below w.heap.size w w' := by
  obtain ⟨i0, hi, hz, hsz, hby⟩ := Try.info38
  have hown0 : w.ownsRow w.heap.size 38 4 (.slice none 0 0) 0 [] := World.ownsRow_nil _ _ _ _
  cases a with
  | none =>
    have hL0 : L = [] := by
      rcases hL with h | ⟨b, o, e, _⟩
      · exact h
      · cases e
    subst hL0
    have h0' := h0 rfl
    subst h0'
    go_enter Try.func51, Try.ntmps51
    go_wp2_with (at_builtin; refine wpList_append_own_none rfl _ _ 25 rfl w.heap.size 38 i0 4 Try.underlying25 hi _ 0 [] rfl hown0 rfl ?_)
    go_ret
    exact ⟨_, rfl, OwnE.nil _ _, Below.refl _ _⟩
  | some ad =>
    have hby0 : (0 + L.length) * i0.bytes ≤ 140737488355328 := by
      have : (0 + L.length) * i0.bytes ≤ 1048576 * 128 := Nat.mul_le_mul (by omega) hby
      omega
    have hnews : ∀ j u, (flat L)[j]? = some u → w.cell? (ad.add j) = some u := by
      by_cases he : L = []
      · subst he
        intro j u hu
        simp [flat] at hu
      · have hL' := hL
        rcases hL with h | ⟨b, o, e, _⟩
        · exact absurd h he
        · cases e
          exact flat_cells hL'
    go_enter Try.func51, Try.ntmps51
    go_wp2_with (at_builtin; refine wpList_append_own_at _ rfl _ _ 25 rfl w.heap.size 38 i0 _ 4 i0.bytes Try.underlying25 hi hz hsz rfl rfl (by decide) _ 0 [] rfl hown0 ad L.length cap (flat L) rfl (flat_len L) hnews (flat_one L) (by unfold maxLen; omega) hby0 (Nat.le_refl _) ?_; intro v' w1 hown1 hgrow hnil hloc; have H1 : Hid (OwnE w.heap.size v' L w1 ∧ Below w.heap.size w w1) := ⟨by unfold OwnE; simpa using hown1, (Below.refl _ _).grown hgrow (Nat.le_refl _) (fun k hk => by cases hk)⟩; obtain ⟨a1, c1, hv1, -⟩ := H1.out.1.slice; rw [hv1] at H1; subst hv1; clear hown1 hgrow hnil hloc hown0 hnews hby0 hi hz hsz hby)
    go_ret
    exact ⟨_, rfl, H1.out.1, H1.out.2⟩

end Go.Proofs.Ytobblnlefhkanaa

/- The contracts of impl.noEntries, entriesOf and IndexOk, over the seat's translation. -/
namespace Go.Proofs.Ytobblnlefhkanaa
open Go.RowKit

/-- The order of entries, as a function value. -/
abbrev byE : Value := .func (.func 50) #[] #[]

theorem no_entries (w : World) : Calls Try.prog 47 #[] w fun e w' => e = .returned (.agg #[.slice none 0 0, .func (.func 50) #[] #[]]) ∧ Below w.heap.size w w' := by
  have hbd : ∀ wx, (Instr.build 55 #[(1, .func (.func 50) #[] #[])]).run Try.prog wx = .ok (.agg #[.slice none 0 0, .func (.func 50) #[] #[]]) wx := fun wx =>
    run_build wx _ _ _ (by kernel_rfl)
  go_enter Try.func47, Try.ntmps47
  go_wp2_with fail
  exact bodyPost_ret (v := .agg #[.slice none 0 0, .func (.func 50) #[] #[]]) (by simp [results, Try.results47, go_sem]) rfl ⟨rfl, by repeat' (first | refine Below.setCell ?_ (Nat.le_refl _) _ | exact (Below.refl _ _).alloc (Nat.le_refl _) _)⟩

/-- The box at B holds a list and its order in W, and may be written. -/
abbrev SBox (B : Nat) (v f : Value) (W : World) : Prop := W.cell? ⟨B, 0, none⟩ = some v ∧ W.cell? ⟨B, 1, none⟩ = some f ∧ W.frozen? ⟨B, 0, none⟩ = false ∧ W.frozen? ⟨B, 1, none⟩ = false
theorem sbox_next {B : Nat} {v f : Value} {W W' : World} (h : SBox B v f W) (hB : B < W.heap.size) (hb : Below W.heap.size W W') : SBox B v f W' := by
  have hc := fun o => (bcell hb).1 B o hB
  have hf := fun o => (bcell hb).2 B o hB
  unfold SBox
  simp only [hc, hf]
  exact h
theorem sbox_box (w : World) (v f : Value) (t : TypeId) : SBox w.heap.size v f (w.alloc (.cells #[v, f] t)) := by
  refine ⟨?_, ?_, ?_, ?_⟩
  all_goals go_simp
theorem sbox_set {B : Nat} {v f v' f' : Value} {W : World} (h : SBox B v f W) : SBox B v' f' ((W.setCell ⟨B, 0, none⟩ v').setCell ⟨B, 1, none⟩ f') := by
  obtain ⟨h1, h2, h3, h4⟩ := h
  refine ⟨?_, ?_, ?_, ?_⟩
  all_goals go_simp

/-- The two boxes of entriesOf: what it answers, and the list that it makes. -/
structure EB (w : World) (p : Nat) (f g : Value) (W : World) : Prop where
  res : SBox w.heap.size (.slice none 0 0) f W
  lst : SBox p (.slice none 0 0) g W
  lt : w.heap.size < p
  sz : p < W.heap.size
  bel : Below w.heap.size w W
theorem EB.next {w : World} {p : Nat} {f g : Value} {W W' : World} (h : EB w p f g W) (hb : Below W.heap.size W W') : EB w p f g W' :=
  ⟨sbox_next h.res (Nat.lt_trans h.lt h.sz) hb, sbox_next h.lst h.sz hb, h.lt, Nat.lt_of_lt_of_le h.sz hb.size, h.bel.trans (hb.mono h.bel.size)⟩
theorem eb_end {w : World} {p : Nat} {f g : Value} {W : World} (h : EB w p f g W) (v u : Value) : ∃ W', (W.setCell ⟨w.heap.size, 0, none⟩ v).setCell ⟨w.heap.size, 1, none⟩ u = W' ∧ SBox w.heap.size v u W' ∧ Below w.heap.size w W' :=
  ⟨_, rfl, sbox_set h.res, (h.bel.setCell (Nat.le_refl _) _).setCell (Nat.le_refl _) _⟩

theorem cell_set {W : World} {B b o p : Nat} {v : Value} (hne : ¬ b = B) : (W.setCell ⟨B, o, none⟩ v).cell? ⟨b, p, none⟩ = W.cell? ⟨b, p, none⟩ := World.cell?_of_block (w := W) (a := ⟨b, p, none⟩) (Below.heap_setCell W ⟨B, o, none⟩ v b hne)
theorem frozen_set {W : World} {B b o p : Nat} {v : Value} (hne : ¬ b = B) : (W.setCell ⟨B, o, none⟩ v).frozen? ⟨b, p, none⟩ = W.frozen? ⟨b, p, none⟩ := World.frozen?_of_block (w := W) (a := ⟨b, p, none⟩) (Below.heap_setCell W ⟨B, o, none⟩ v b hne)
/-- A row that came behind is left alone by what is written ahead of it. -/
theorem own_set {base B o : Nat} {v u : Value} {L : List AEnt} {W : World} (h : OwnE base v L W) (hB : B < base) : OwnE base v L (W.setCell ⟨B, o, none⟩ u) := by
  refine ⟨h.1, ?_⟩
  rcases h.2 with h | ⟨g, cap, cur, hv, hg, hh, r⟩
  · exact Or.inl h
  · exact Or.inr ⟨g, cap, cur, hv, hg, by rw [Below.heap_setCell W ⟨B, o, none⟩ u g (by show ¬ g = B; omega)]; exact hh, r⟩
theorem OwnE.mono {base base' : Nat} {v : Value} {L : List AEnt} {W : World} (h : OwnE base v L W) (hb : base' ≤ base) : OwnE base' v L W := by
  refine ⟨h.1, ?_⟩
  rcases h.2 with h | ⟨g, cap, cur, hv, hg, r⟩
  · exact Or.inl h
  · exact Or.inr ⟨g, cap, cur, hv, Nat.le_trans hb hg, r⟩

theorem index_long {L : List AEnt} (h : ¬ L.length ≤ 16) : indexOk L = false := by simp [indexOk, h]

set_option maxRecDepth 100000 in
set_option maxHeartbeats 2000000 in
theorem entries_of (a : Option Addr) (cap : Nat) (L : List AEnt) (w : World) (hL : EntsAt w a L) (h0 : a = none → cap = 0) (hf : ∀ c ∈ L, c.fit) (hm : L.length ≤ maxLen) :
    Calls Try.prog 35 #[.slice a L.length cap] w fun e w' => ∃ v, e = .returned (.tuple #[.agg #[v, .func (.func 50) #[] #[]], .bool (indexOk L)]) ∧ OwnE w.heap.size v (if indexOk L then L else []) w' ∧ Below w.heap.size w w' := by
  have hm' := hm
  unfold maxLen at hm'
  have S0 := sbox_box w (.slice none 0 0) .nilFunc 55
  have B0 : Hid (Below w.heap.size w (w.alloc (.cells #[.slice none 0 0, .nilFunc] 55))) := (Below.refl _ _).alloc (Nat.le_refl _) _
  by_cases hl : L.length ≤ 16
  rotate_left
  · have hl' : (16 : Int) < L.length := by omega
    rw [index_long hl, if_neg (by decide)]
    go_enter Try.func35, Try.ntmps35
    go_wp2_with fail
    refine (no_entries _).mono ?_
    rintro e w1 ⟨rfl, hb⟩
    have B1 : Hid (Below w.heap.size w w1) := B0.out.trans (hb.mono (by simp))
    have S1 := sbox_next S0 (by simp) hb
    have hz1 : w.heap.size < w1.heap.size := by have := hb.size; simp at this; omega
    have S2 := sbox_next S1 hz1 ((Below.refl _ _).alloc (Nat.le_refl _) (.cells #[.slice none 0 0, .func (.func 50) #[] #[]] 55))
    clear hb B0 S0
    go_wp2_with fail
    have hz2 : w.heap.size < ((w1.setCell ⟨w.heap.size, 0, none⟩ (.slice none 0 0)).setCell ⟨w.heap.size, 1, none⟩ (.func (.func 50) #[] #[])).heap.size := by simp [World.setCell]; exact hz1
    have H : ∃ W, ((w1.setCell ⟨w.heap.size, 0, none⟩ (.slice none 0 0)).setCell ⟨w.heap.size, 1, none⟩ (.func (.func 50) #[] #[])).alloc (.cells #[.slice none 0 0, .func (.func 50) #[] #[]] 55) = W ∧ SBox w.heap.size (.slice none 0 0) (.func (.func 50) #[] #[]) W ∧ Below w.heap.size w W :=
      ⟨_, rfl, sbox_next (sbox_set S1) hz2 ((Below.refl _ _).alloc (Nat.le_refl _) _), (((B1.out.setCell (Nat.le_refl _) _).setCell (Nat.le_refl _) _).alloc (by omega) _)⟩
    obtain ⟨W, hW, SW, BW⟩ := H
    rw [hW]
    exact bodyPost_ret (v := .tuple #[.agg #[.slice none 0 0, .func (.func 50) #[] #[]], .bool false]) (by simp [results, Try.results35, go_sem, SW]) rfl ⟨_, rfl, OwnE.nil _ _, BW⟩
  have hl' : decide ((16 : Int) < L.length) = false := decide_eq_false (by omega)
  cases hA : L.all AEnt.ok
  · rw [show indexOk L = false by simp [indexOk, hA], if_neg (by decide)]
    go_enter Try.func35, Try.ntmps35
    go_wp2_with fail
    refine (no_entries _).mono ?_
    rintro e w1 ⟨rfl, hb⟩
    have hz1 : w.heap.size < w1.heap.size := by have := hb.size; simp at this; omega
    have E0 : EB w w1.heap.size .nilFunc (.func (.func 50) #[] #[]) (w1.alloc (.cells #[.slice none 0 0, .func (.func 50) #[] #[]] 55)) :=
      ⟨sbox_next (sbox_next S0 (by simp) hb) hz1 ((Below.refl _ _).alloc (Nat.le_refl _) _), sbox_box _ _ _ _, hz1, by simp, (B0.out.trans (hb.mono (by simp))).alloc (by omega) _⟩
    have hL1 : Hid (EntsAt (w1.alloc (.cells #[.slice none 0 0, .func (.func 50) #[] #[]] 55)) a L) := hL.keep E0.bel
    clear hb B0 S0 hL
    go_wp2_with fail
    refine (all_entries _ _ _ _ hL1.out hf hm).mono ?_
    rintro e w2 ⟨rfl, hb⟩
    rw [hA]
    have E1 := E0.next hb
    have hL2 : Hid (EntsAt w2 a L) := hL1.out.keep hb
    clear hb E0 hL1
    have EX : Hid (EB w w1.heap.size .nilFunc (.func (.func 50) #[] #[]) w2) := E1
    obtain ⟨⟨q0, q1, q2, q3⟩, ⟨r0, r1, r2, r3⟩, -, -, -⟩ := E1
    go_wp2_with fail
    obtain ⟨W, hW, SW, BW⟩ := eb_end EX.out (.slice none 0 0) (.func (.func 50) #[] #[])
    rw [hW]
    exact bodyPost_ret (v := .tuple #[.agg #[.slice none 0 0, .func (.func 50) #[] #[]], .bool false]) (by simp [results, Try.results35, go_sem, SW]) rfl ⟨_, rfl, OwnE.nil _ _, BW⟩
  cases hO : ascB L
  · rw [show indexOk L = false by simp [indexOk, hO], if_neg (by decide)]
    go_enter Try.func35, Try.ntmps35
    go_wp2_with fail
    refine (no_entries _).mono ?_
    rintro e w1 ⟨rfl, hb⟩
    have hz1 : w.heap.size < w1.heap.size := by have := hb.size; simp at this; omega
    have E0 : EB w w1.heap.size .nilFunc (.func (.func 50) #[] #[]) (w1.alloc (.cells #[.slice none 0 0, .func (.func 50) #[] #[]] 55)) :=
      ⟨sbox_next (sbox_next S0 (by simp) hb) hz1 ((Below.refl _ _).alloc (Nat.le_refl _) _), sbox_box _ _ _ _, hz1, by simp, (B0.out.trans (hb.mono (by simp))).alloc (by omega) _⟩
    have hL1 : Hid (EntsAt (w1.alloc (.cells #[.slice none 0 0, .func (.func 50) #[] #[]] 55)) a L) := hL.keep E0.bel
    clear hb B0 S0 hL
    go_wp2_with fail
    refine (all_entries _ _ _ _ hL1.out hf hm).mono ?_
    rintro e w2 ⟨rfl, hb⟩
    rw [hA]
    have E1 := E0.next hb
    have hL2 : Hid (EntsAt w2 a L) := hL1.out.keep hb
    clear hb E0 hL1
    go_wp2_with fail
    refine (ascends_entries _ _ _ _ hL2.out hm).mono ?_
    rintro e w3 ⟨rfl, hb⟩
    rw [hO]
    have E2 := E1.next hb
    have EX : Hid (EB w w1.heap.size .nilFunc (.func (.func 50) #[] #[]) w3) := E2
    clear hb E1 hL2
    obtain ⟨⟨q0, q1, q2, q3⟩, ⟨r0, r1, r2, r3⟩, -, -, -⟩ := E2
    go_wp2_with fail
    obtain ⟨W, hW, SW, BW⟩ := eb_end EX.out (.slice none 0 0) (.func (.func 50) #[] #[])
    rw [hW]
    exact bodyPost_ret (v := .tuple #[.agg #[.slice none 0 0, .func (.func 50) #[] #[]], .bool false]) (by simp [results, Try.results35, go_sem, SW]) rfl ⟨_, rfl, OwnE.nil _ _, BW⟩
  · have hI : indexOk L = true := by simp [indexOk, hl, hA, hO]
    have hI' : Hid (L.length ≤ 1048576) := by show L.length ≤ 1048576; omega
    rw [hI, if_pos rfl]
    go_enter Try.func35, Try.ntmps35
    go_wp2_with fail
    refine (no_entries _).mono ?_
    rintro e w1 ⟨rfl, hb⟩
    have hz1 : w.heap.size < w1.heap.size := by have := hb.size; simp at this; omega
    have E0 : EB w w1.heap.size .nilFunc (.func (.func 50) #[] #[]) (w1.alloc (.cells #[.slice none 0 0, .func (.func 50) #[] #[]] 55)) :=
      ⟨sbox_next (sbox_next S0 (by simp) hb) hz1 ((Below.refl _ _).alloc (Nat.le_refl _) _), sbox_box _ _ _ _, hz1, by simp, (B0.out.trans (hb.mono (by simp))).alloc (by omega) _⟩
    have hL1 : Hid (EntsAt (w1.alloc (.cells #[.slice none 0 0, .func (.func 50) #[] #[]] 55)) a L) := hL.keep E0.bel
    clear hb B0 S0 hL
    go_wp2_with fail
    refine (all_entries _ _ _ _ hL1.out hf hm).mono ?_
    rintro e w2 ⟨rfl, hb⟩
    rw [hA]
    have E1 := E0.next hb
    have hL2 : Hid (EntsAt w2 a L) := hL1.out.keep hb
    clear hb E0 hL1
    go_wp2_with fail
    refine (ascends_entries _ _ _ _ hL2.out hm).mono ?_
    rintro e w3 ⟨rfl, hb⟩
    rw [hO]
    have E2 := E1.next hb
    have hL3 : Hid (EntsAt w3 a L) := hL2.out.keep hb
    clear hb E1 hL2
    go_wp2_with fail
    refine (fresh_entries _ _ _ _ hL3.out h0 hI'.out).mono ?_
    rintro e w4 ⟨v, rfl, hv, hb⟩
    have E3 := E2.next hb
    have hv' : Hid (OwnE w3.heap.size v L w4) := hv
    have hz3 : Hid (w1.heap.size < w3.heap.size) := E2.sz
    obtain ⟨a1, c1, rfl, -, -⟩ := hv.slice
    clear hb E2 hL3 hv
    have EX : Hid (EB w w1.heap.size .nilFunc (.func (.func 50) #[] #[]) w4) := E3
    obtain ⟨⟨q0, q1, q2, q3⟩, ⟨r0, r1, r2, r3⟩, -, -, -⟩ := E3
    have hpz : ¬ w.heap.size = w1.heap.size := by have := EX.out.lt; omega
    go_wp2_with fail
    have SX : SBox w.heap.size (.slice none 0 0) .nilFunc (w4.setCell ⟨w1.heap.size, 0, none⟩ (.slice a1 L.length c1)) := by
      have hc := fun o => cell_set (W := w4) (B := w1.heap.size) (o := 0) (p := o) (v := .slice a1 L.length c1) hpz
      have hf := fun o => frozen_set (W := w4) (B := w1.heap.size) (o := 0) (p := o) (v := .slice a1 L.length c1) hpz
      unfold SBox
      simp only [hc, hf]
      exact EX.out.res
    obtain ⟨W, hW, SW, BW⟩ : ∃ W', ((w4.setCell ⟨w1.heap.size, 0, none⟩ (.slice a1 L.length c1)).setCell ⟨w.heap.size, 0, none⟩ (.slice a1 L.length c1)).setCell ⟨w.heap.size, 1, none⟩ (.func (.func 50) #[] #[]) = W' ∧ SBox w.heap.size (.slice a1 L.length c1) (.func (.func 50) #[] #[]) W' ∧ (OwnE w.heap.size (.slice a1 L.length c1) L W' ∧ Below w.heap.size w W') :=
      ⟨_, rfl, sbox_set SX, own_set (own_set (own_set hv'.out hz3.out) (Nat.lt_trans EX.out.lt hz3.out)) (Nat.lt_trans EX.out.lt hz3.out) |>.mono (by have := EX.out.lt; have := hz3.out; omega), ((EX.out.bel.setCell (Nat.le_of_lt EX.out.lt) _).setCell (Nat.le_refl _) _).setCell (Nat.le_refl _) _⟩
    rw [hW]
    exact bodyPost_ret (v := .tuple #[.agg #[.slice a1 L.length c1, .func (.func 50) #[] #[]], .bool true]) (by simp [results, Try.results35, go_sem, SW]) rfl ⟨_, rfl, BW.1, BW.2⟩

set_option maxRecDepth 100000 in
set_option maxHeartbeats 1000000 in
theorem impl_index (a : Option Addr) (cap : Nat) (L : List AEnt) (w : World) (hL : EntsAt w a L) (h0 : a = none → cap = 0) (hf : ∀ c ∈ L, c.fit) (hm : L.length ≤ maxLen) :
    Calls Try.prog 12 #[.slice a L.length cap] w fun e w' => e = .returned (.bool (indexOk L)) ∧ Below w.heap.size w w' := by
  go_enter Try.func12, Try.ntmps12
  go_wp2_with fail
  refine (entries_of _ _ _ _ hL h0 hf hm).mono ?_
  rintro e w1 ⟨v, rfl, hv, hb⟩
  have hB : Hid (Below w.heap.size w w1) := hb
  obtain ⟨a1, n1, c1, hV⟩ : ∃ a1 n1 c1, v = .slice a1 n1 c1 := by obtain ⟨a1, c1, h, -, -⟩ := hv.slice; exact ⟨a1, _, c1, h⟩
  subst hV
  clear hb hv
  obtain ⟨r, hr⟩ : ∃ r, r = indexOk L := ⟨_, rfl⟩
  rw [← hr]
  have HR : Hid (r = indexOk L) := hr
  clear hr
  go_wp2_with fail
  go_ret
  exact ⟨ret_bool HR.out, hB.out.alloc hB.out.size _⟩

end Go.Proofs.Ytobblnlefhkanaa
