/- The contracts of impl.noEntries, entriesOf and IndexOk, over the seat's translation. -/
import Derived.Test.YtobblnlefhkanaaIxF
import Derived.Laws.Tables
import Derived.Laws.EntriesVeiled
namespace Go.Proofs.Ytobblnlefhkanaa
open Go.RowKit

/-- The order of entries, as a function value. -/
abbrev byE : Value := .func (.func 50) #[] #[]

theorem no_entries (w : World) : Calls Try.prog 47 #[] w fun e w' => e = .returned (.agg #[.slice none 0 0, .func (.func 50) #[] #[]]) ∧ Below w.heap.size w w' := by
  have hbd : ∀ wx, (Instr.build 55 #[(1, .func (.func 50) #[] #[])]).run Try.prog wx = .ok (.agg #[.slice none 0 0, .func (.func 50) #[] #[]]) wx := fun wx =>
    run_build wx _ _ _ (by kernel_rfl)
  go_enter Try.func47, Try.ntmps47
  go_wp2_with fail
  exact bodyPost_ret (v := .agg #[.slice none 0 0, .func (.func 50) #[] #[]]) (by simp [results, Try.results47, go_sem]) rfl ⟨rfl, by repeat' (first | refine Below.setCell ?_ (Nat.le_refl _) _ | exact (Below.refl _ _).alloc (Nat.le_refl _) _)⟩

/-- The box at B holds a list and its order in W, and may be written. -/
abbrev SBox (B : Nat) (v f : Value) (W : World) : Prop := W.cell? ⟨B, 0, none⟩ = some v ∧ W.cell? ⟨B, 1, none⟩ = some f ∧ W.frozen? ⟨B, 0, none⟩ = false ∧ W.frozen? ⟨B, 1, none⟩ = false
theorem sbox_next {B : Nat} {v f : Value} {W W' : World} (h : SBox B v f W) (hB : B < W.heap.size) (hb : Below W.heap.size W W') : SBox B v f W' := by
  have hc := fun o => (bcell hb).1 B o hB
  have hf := fun o => (bcell hb).2 B o hB
  unfold SBox
  simp only [hc, hf]
  exact h
theorem sbox_box (w : World) (v f : Value) (t : TypeId) : SBox w.heap.size v f (w.alloc (.cells #[v, f] t)) := by
  refine ⟨?_, ?_, ?_, ?_⟩
  all_goals go_simp
theorem sbox_set {B : Nat} {v f v' f' : Value} {W : World} (h : SBox B v f W) : SBox B v' f' ((W.setCell ⟨B, 0, none⟩ v').setCell ⟨B, 1, none⟩ f') := by
  obtain ⟨h1, h2, h3, h4⟩ := h
  refine ⟨?_, ?_, ?_, ?_⟩
  all_goals go_simp

/-- The two boxes of entriesOf: what it answers, and the list that it makes. -/
structure EB (w : World) (p : Nat) (f g : Value) (W : World) : Prop where
  res : SBox w.heap.size (.slice none 0 0) f W
  lst : SBox p (.slice none 0 0) g W
  lt : w.heap.size < p
  sz : p < W.heap.size
  bel : Below w.heap.size w W
theorem EB.next {w : World} {p : Nat} {f g : Value} {W W' : World} (h : EB w p f g W) (hb : Below W.heap.size W W') : EB w p f g W' :=
  ⟨sbox_next h.res (Nat.lt_trans h.lt h.sz) hb, sbox_next h.lst h.sz hb, h.lt, Nat.lt_of_lt_of_le h.sz hb.size, h.bel.trans (hb.mono h.bel.size)⟩
theorem eb_end {w : World} {p : Nat} {f g : Value} {W : World} (h : EB w p f g W) (v u : Value) : ∃ W', (W.setCell ⟨w.heap.size, 0, none⟩ v).setCell ⟨w.heap.size, 1, none⟩ u = W' ∧ SBox w.heap.size v u W' ∧ Below w.heap.size w W' :=
  ⟨_, rfl, sbox_set h.res, (h.bel.setCell (Nat.le_refl _) _).setCell (Nat.le_refl _) _⟩

theorem cell_set {W : World} {B b o p : Nat} {v : Value} (hne : ¬ b = B) : (W.setCell ⟨B, o, none⟩ v).cell? ⟨b, p, none⟩ = W.cell? ⟨b, p, none⟩ := World.cell?_of_block (w := W) (a := ⟨b, p, none⟩) (Below.heap_setCell W ⟨B, o, none⟩ v b hne)
theorem frozen_set {W : World} {B b o p : Nat} {v : Value} (hne : ¬ b = B) : (W.setCell ⟨B, o, none⟩ v).frozen? ⟨b, p, none⟩ = W.frozen? ⟨b, p, none⟩ := World.frozen?_of_block (w := W) (a := ⟨b, p, none⟩) (Below.heap_setCell W ⟨B, o, none⟩ v b hne)
/-- A row that came behind is left alone by what is written ahead of it. -/
theorem own_set {base B o : Nat} {v u : Value} {L : List AEnt} {W : World} (h : OwnE base v L W) (hB : B < base) : OwnE base v L (W.setCell ⟨B, o, none⟩ u) := by
  refine ⟨h.1, ?_⟩
  rcases h.2 with h | ⟨g, cap, cur, hv, hg, hh, r⟩
  · exact Or.inl h
  · exact Or.inr ⟨g, cap, cur, hv, hg, by rw [Below.heap_setCell W ⟨B, o, none⟩ u g (by show ¬ g = B; omega)]; exact hh, r⟩
theorem OwnE.mono {base base' : Nat} {v : Value} {L : List AEnt} {W : World} (h : OwnE base v L W) (hb : base' ≤ base) : OwnE base' v L W := by
  refine ⟨h.1, ?_⟩
  rcases h.2 with h | ⟨g, cap, cur, hv, hg, r⟩
  · exact Or.inl h
  · exact Or.inr ⟨g, cap, cur, hv, Nat.le_trans hb hg, r⟩

theorem index_long {L : List AEnt} (h : ¬ L.length ≤ 16) : indexOk L = false := by simp [indexOk, h]

set_option maxRecDepth 100000 in
set_option maxHeartbeats 2000000 in
theorem entries_of (a : Option Addr) (cap : Nat) (L : List AEnt) (w : World) (hL : EntsAt w a L) (h0 : a = none → cap = 0) (hf : ∀ c ∈ L, c.fit) (hm : L.length ≤ maxLen) :
    Calls Try.prog 35 #[.slice a L.length cap] w fun e w' => ∃ v, e = .returned (.tuple #[.agg #[v, .func (.func 50) #[] #[]], .bool (indexOk L)]) ∧ OwnE w.heap.size v (if indexOk L then L else []) w' ∧ Below w.heap.size w w' := by
  have hm' := hm
  unfold maxLen at hm'
  have S0 := sbox_box w (.slice none 0 0) .nilFunc 55
  have B0 : Hid (Below w.heap.size w (w.alloc (.cells #[.slice none 0 0, .nilFunc] 55))) := (Below.refl _ _).alloc (Nat.le_refl _) _
  by_cases hl : L.length ≤ 16
  rotate_left
  · have hl' : (16 : Int) < L.length := by omega
    rw [index_long hl, if_neg (by decide)]
    go_enter Try.func35, Try.ntmps35
    go_wp2_with fail
    refine (no_entries _).mono ?_
    rintro e w1 ⟨rfl, hb⟩
    have B1 : Hid (Below w.heap.size w w1) := B0.out.trans (hb.mono (by simp))
    have S1 := sbox_next S0 (by simp) hb
    have hz1 : w.heap.size < w1.heap.size := by have := hb.size; simp at this; omega
    have S2 := sbox_next S1 hz1 ((Below.refl _ _).alloc (Nat.le_refl _) (.cells #[.slice none 0 0, .func (.func 50) #[] #[]] 55))
    clear hb B0 S0
    go_wp2_with fail
    have hz2 : w.heap.size < ((w1.setCell ⟨w.heap.size, 0, none⟩ (.slice none 0 0)).setCell ⟨w.heap.size, 1, none⟩ (.func (.func 50) #[] #[])).heap.size := by simp [World.setCell]; exact hz1
    have H : ∃ W, ((w1.setCell ⟨w.heap.size, 0, none⟩ (.slice none 0 0)).setCell ⟨w.heap.size, 1, none⟩ (.func (.func 50) #[] #[])).alloc (.cells #[.slice none 0 0, .func (.func 50) #[] #[]] 55) = W ∧ SBox w.heap.size (.slice none 0 0) (.func (.func 50) #[] #[]) W ∧ Below w.heap.size w W :=
      ⟨_, rfl, sbox_next (sbox_set S1) hz2 ((Below.refl _ _).alloc (Nat.le_refl _) _), (((B1.out.setCell (Nat.le_refl _) _).setCell (Nat.le_refl _) _).alloc (by omega) _)⟩
    obtain ⟨W, hW, SW, BW⟩ := H
    rw [hW]
    exact bodyPost_ret (v := .tuple #[.agg #[.slice none 0 0, .func (.func 50) #[] #[]], .bool false]) (by simp [results, Try.results35, go_sem, SW]) rfl ⟨_, rfl, OwnE.nil _ _, BW⟩
  have hl' : decide ((16 : Int) < L.length) = false := decide_eq_false (by omega)
  cases hA : L.all AEnt.ok
  · rw [show indexOk L = false by simp [indexOk, hA], if_neg (by decide)]
    go_enter Try.func35, Try.ntmps35
    go_wp2_with fail
    refine (no_entries _).mono ?_
    rintro e w1 ⟨rfl, hb⟩
    have hz1 : w.heap.size < w1.heap.size := by have := hb.size; simp at this; omega
    have E0 : EB w w1.heap.size .nilFunc (.func (.func 50) #[] #[]) (w1.alloc (.cells #[.slice none 0 0, .func (.func 50) #[] #[]] 55)) :=
      ⟨sbox_next (sbox_next S0 (by simp) hb) hz1 ((Below.refl _ _).alloc (Nat.le_refl _) _), sbox_box _ _ _ _, hz1, by simp, (B0.out.trans (hb.mono (by simp))).alloc (by omega) _⟩
    have hL1 : Hid (EntsAt (w1.alloc (.cells #[.slice none 0 0, .func (.func 50) #[] #[]] 55)) a L) := hL.keep E0.bel
    clear hb B0 S0 hL
    go_wp2_with fail
    refine (all_entries _ _ _ _ hL1.out hf hm).mono ?_
    rintro e w2 ⟨rfl, hb⟩
    rw [hA]
    have E1 := E0.next hb
    have hL2 : Hid (EntsAt w2 a L) := hL1.out.keep hb
    clear hb E0 hL1
    have EX : Hid (EB w w1.heap.size .nilFunc (.func (.func 50) #[] #[]) w2) := E1
    obtain ⟨⟨q0, q1, q2, q3⟩, ⟨r0, r1, r2, r3⟩, -, -, -⟩ := E1
    go_wp2_with fail
    obtain ⟨W, hW, SW, BW⟩ := eb_end EX.out (.slice none 0 0) (.func (.func 50) #[] #[])
    rw [hW]
    exact bodyPost_ret (v := .tuple #[.agg #[.slice none 0 0, .func (.func 50) #[] #[]], .bool false]) (by simp [results, Try.results35, go_sem, SW]) rfl ⟨_, rfl, OwnE.nil _ _, BW⟩
  cases hO : ascB L
  · rw [show indexOk L = false by simp [indexOk, hO], if_neg (by decide)]
    go_enter Try.func35, Try.ntmps35
    go_wp2_with fail
    refine (no_entries _).mono ?_
    rintro e w1 ⟨rfl, hb⟩
    have hz1 : w.heap.size < w1.heap.size := by have := hb.size; simp at this; omega
    have E0 : EB w w1.heap.size .nilFunc (.func (.func 50) #[] #[]) (w1.alloc (.cells #[.slice none 0 0, .func (.func 50) #[] #[]] 55)) :=
      ⟨sbox_next (sbox_next S0 (by simp) hb) hz1 ((Below.refl _ _).alloc (Nat.le_refl _) _), sbox_box _ _ _ _, hz1, by simp, (B0.out.trans (hb.mono (by simp))).alloc (by omega) _⟩
    have hL1 : Hid (EntsAt (w1.alloc (.cells #[.slice none 0 0, .func (.func 50) #[] #[]] 55)) a L) := hL.keep E0.bel
    clear hb B0 S0 hL
    go_wp2_with fail
    refine (all_entries _ _ _ _ hL1.out hf hm).mono ?_
    rintro e w2 ⟨rfl, hb⟩
    rw [hA]
    have E1 := E0.next hb
    have hL2 : Hid (EntsAt w2 a L) := hL1.out.keep hb
    clear hb E0 hL1
    go_wp2_with fail
    refine (ascends_entries _ _ _ _ hL2.out hm).mono ?_
    rintro e w3 ⟨rfl, hb⟩
    rw [hO]
    have E2 := E1.next hb
    have EX : Hid (EB w w1.heap.size .nilFunc (.func (.func 50) #[] #[]) w3) := E2
    clear hb E1 hL2
    obtain ⟨⟨q0, q1, q2, q3⟩, ⟨r0, r1, r2, r3⟩, -, -, -⟩ := E2
    go_wp2_with fail
    obtain ⟨W, hW, SW, BW⟩ := eb_end EX.out (.slice none 0 0) (.func (.func 50) #[] #[])
    rw [hW]
    exact bodyPost_ret (v := .tuple #[.agg #[.slice none 0 0, .func (.func 50) #[] #[]], .bool false]) (by simp [results, Try.results35, go_sem, SW]) rfl ⟨_, rfl, OwnE.nil _ _, BW⟩
  · have hI : indexOk L = true := by simp [indexOk, hl, hA, hO]
    have hI' : Hid (L.length ≤ 1048576) := by show L.length ≤ 1048576; omega
    rw [hI, if_pos rfl]
    go_enter Try.func35, Try.ntmps35
    go_wp2_with fail
    refine (no_entries _).mono ?_
    rintro e w1 ⟨rfl, hb⟩
    have hz1 : w.heap.size < w1.heap.size := by have := hb.size; simp at this; omega
    have E0 : EB w w1.heap.size .nilFunc (.func (.func 50) #[] #[]) (w1.alloc (.cells #[.slice none 0 0, .func (.func 50) #[] #[]] 55)) :=
      ⟨sbox_next (sbox_next S0 (by simp) hb) hz1 ((Below.refl _ _).alloc (Nat.le_refl _) _), sbox_box _ _ _ _, hz1, by simp, (B0.out.trans (hb.mono (by simp))).alloc (by omega) _⟩
    have hL1 : Hid (EntsAt (w1.alloc (.cells #[.slice none 0 0, .func (.func 50) #[] #[]] 55)) a L) := hL.keep E0.bel
    clear hb B0 S0 hL
    go_wp2_with fail
    refine (all_entries _ _ _ _ hL1.out hf hm).mono ?_
    rintro e w2 ⟨rfl, hb⟩
    rw [hA]
    have E1 := E0.next hb
    have hL2 : Hid (EntsAt w2 a L) := hL1.out.keep hb
    clear hb E0 hL1
    go_wp2_with fail
    refine (ascends_entries _ _ _ _ hL2.out hm).mono ?_
    rintro e w3 ⟨rfl, hb⟩
    rw [hO]
    have E2 := E1.next hb
    have hL3 : Hid (EntsAt w3 a L) := hL2.out.keep hb
    clear hb E1 hL2
    go_wp2_with fail
    refine (fresh_entries _ _ _ _ hL3.out h0 hI'.out).mono ?_
    rintro e w4 ⟨v, rfl, hv, hb⟩
    have E3 := E2.next hb
    have hv' : Hid (OwnE w3.heap.size v L w4) := hv
    have hz3 : Hid (w1.heap.size < w3.heap.size) := E2.sz
    obtain ⟨a1, c1, rfl, -, -⟩ := hv.slice
    clear hb E2 hL3 hv
    have EX : Hid (EB w w1.heap.size .nilFunc (.func (.func 50) #[] #[]) w4) := E3
    obtain ⟨⟨q0, q1, q2, q3⟩, ⟨r0, r1, r2, r3⟩, -, -, -⟩ := E3
    have hpz : ¬ w.heap.size = w1.heap.size := by have := EX.out.lt; omega
    go_wp2_with fail
    have SX : SBox w.heap.size (.slice none 0 0) .nilFunc (w4.setCell ⟨w1.heap.size, 0, none⟩ (.slice a1 L.length c1)) := by
      have hc := fun o => cell_set (W := w4) (B := w1.heap.size) (o := 0) (p := o) (v := .slice a1 L.length c1) hpz
      have hf := fun o => frozen_set (W := w4) (B := w1.heap.size) (o := 0) (p := o) (v := .slice a1 L.length c1) hpz
      unfold SBox
      simp only [hc, hf]
      exact EX.out.res
    obtain ⟨W, hW, SW, BW⟩ : ∃ W', ((w4.setCell ⟨w1.heap.size, 0, none⟩ (.slice a1 L.length c1)).setCell ⟨w.heap.size, 0, none⟩ (.slice a1 L.length c1)).setCell ⟨w.heap.size, 1, none⟩ (.func (.func 50) #[] #[]) = W' ∧ SBox w.heap.size (.slice a1 L.length c1) (.func (.func 50) #[] #[]) W' ∧ (OwnE w.heap.size (.slice a1 L.length c1) L W' ∧ Below w.heap.size w W') :=
      ⟨_, rfl, sbox_set SX, own_set (own_set (own_set hv'.out hz3.out) (Nat.lt_trans EX.out.lt hz3.out)) (Nat.lt_trans EX.out.lt hz3.out) |>.mono (by have := EX.out.lt; have := hz3.out; omega), ((EX.out.bel.setCell (Nat.le_of_lt EX.out.lt) _).setCell (Nat.le_refl _) _).setCell (Nat.le_refl _) _⟩
    rw [hW]
    exact bodyPost_ret (v := .tuple #[.agg #[.slice a1 L.length c1, .func (.func 50) #[] #[]], .bool true]) (by simp [results, Try.results35, go_sem, SW]) rfl ⟨_, rfl, BW.1, BW.2⟩

set_option maxRecDepth 100000 in
set_option maxHeartbeats 1000000 in
theorem impl_index (a : Option Addr) (cap : Nat) (L : List AEnt) (w : World) (hL : EntsAt w a L) (h0 : a = none → cap = 0) (hf : ∀ c ∈ L, c.fit) (hm : L.length ≤ maxLen) :
    Calls Try.prog 12 #[.slice a L.length cap] w fun e w' => e = .returned (.bool (indexOk L)) ∧ Below w.heap.size w w' := by
  go_enter Try.func12, Try.ntmps12
  go_wp2_with fail
  refine (entries_of _ _ _ _ hL h0 hf hm).mono ?_
  rintro e w1 ⟨v, rfl, hv, hb⟩
  have hB : Hid (Below w.heap.size w w1) := hb
  obtain ⟨a1, n1, c1, hV⟩ : ∃ a1 n1 c1, v = .slice a1 n1 c1 := by obtain ⟨a1, c1, h, -, -⟩ := hv.slice; exact ⟨a1, _, c1, h⟩
  subst hV
  clear hb hv
  obtain ⟨r, hr⟩ : ∃ r, r = indexOk L := ⟨_, rfl⟩
  rw [← hr]
  have HR : Hid (r = indexOk L) := hr
  clear hr
  go_wp2_with fail
  go_ret
  exact ⟨ret_bool HR.out, hB.out.alloc hB.out.size _⟩

end Go.Proofs.Ytobblnlefhkanaa
