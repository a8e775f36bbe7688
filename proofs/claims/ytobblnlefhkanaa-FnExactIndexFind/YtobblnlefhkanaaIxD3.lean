/- The contracts of impl.without and of (*impl.sorted).off at entries, over the seat's translation. -/
import Derived.Test.YtobblnlefhkanaaIxD2
import Derived.Test.YtobblnlefhkanaaIxB2
import Derived.Test.YtobblnlefhkanaaIxP2
namespace Go.Proofs.Ytobblnlefhkanaa
open Go.RowKit

set_option maxRecDepth 100000 in
set_option maxHeartbeats 2000000 in
theorem without_entries (b o cap i r : Nat) (M : List AEnt) (hM : M.length = r + 1) (w : World) (hE : EntsAt w (some ⟨b, o, none⟩) M) (hi : i ≤ r) (hl : M.length ≤ 1048576) :
    Calls Try.prog 54 #[.slice (some ⟨b, o, none⟩) (r + 1) cap, .int .i64 i] w
      fun e w' => ∃ v, e = .returned v ∧ RowE w.heap.size v (M.take i ++ M.drop (i + 1)) w' ∧ Below w.heap.size w w' := by
  have hwk : IntKind.i64.wrap ((i : Int) + 1) = (i : Int) + 1 := by
    simp [IntKind.wrap, IntKind.bits, IntKind.signed]
    omega
  have hcl := clone_entries b o cap M w hE hl (by omega)
  rw [hM] at hcl
  have hHM : Hid (M.length = r + 1) := hM
  clear hE hM
  go_enter Try.func54, Try.ntmps54
  go_wp2_with fail
  refine hcl.mono ?_
  rintro e w1 ⟨g, c, rfl, hO, hb⟩
  have hO' : Hid (OwnE w.heap.size (.slice (some ⟨g, 0, none⟩) M.length c) M w1) := by show OwnE _ _ _ _; rw [hHM.out]; exact hO
  have hB : Hid (Below w.heap.size w w1) := hb
  clear hcl hO hb
  go_wp2_with fail
  refine (delete_entries g c i r M hHM.out w1 w.heap.size hO'.out hi hl hB.out.size).mono ?_
  rintro e w2 ⟨v, rfl, hR, hb⟩
  obtain ⟨a2, n2, c2, hv2⟩ : ∃ a2 n2 c2, v = .slice a2 n2 c2 := by obtain ⟨a2, c2, h, -⟩ := hR.slice; exact ⟨_, _, _, h⟩
  subst hv2
  have hF : Hid (RowE w.heap.size (.slice a2 n2 c2) (M.take i ++ M.drop (i + 1)) w2 ∧ Below w.heap.size w w2) := ⟨hR, hB.out.trans hb⟩
  clear hR hb hO' hB
  go_wp2_with fail
  go_ret
  exact ⟨_, rfl, hF.out.1, hF.out.2⟩

theorem sbox_one {B : Nat} {v f v' : Value} {W : World} (h : SBox B v f W) : SBox B v' f (W.setCell ⟨B, 0, none⟩ v') := by
  obtain ⟨h1, h2, h3, h4⟩ := h
  refine ⟨?_, ?_, ?_, ?_⟩
  all_goals go_simp
theorem RowE.set {base B o : Nat} {v u : Value} {L : List AEnt} {W : World} (h : RowE base v L W) (hB : B < base) : RowE base v L (W.setCell ⟨B, o, none⟩ u) := by
  rcases h with h | ⟨b, cap, hv, h1, h2, h3, h4, h5⟩
  · exact Or.inl h
  · have hne : ¬ b = B := by omega
    refine Or.inr ⟨b, cap, hv, h1, by simpa [World.setCell] using h2, h3, ?_, fun j hj => ?_⟩
    · rcases h4 with h | ⟨b', o', e, hlt, hr⟩
      · exact Or.inl h
      · cases e
        exact Or.inr ⟨b, 0, rfl, by simpa [World.setCell] using hlt, fun i c hc j v hv => by rw [cell_set hne]; exact hr i c hc j v hv⟩
    · rw [cell_set hne, frozen_set hne]; exact h5 j hj

set_option maxRecDepth 100000 in
set_option maxHeartbeats 2000000 in
theorem off_entries (B base : Nat) (v : Value) (M : List AEnt) (x : AEnt) (w : World) (hS : SBox B v (.func (.func 50) #[] #[]) w) (hR : RowE base v M w) (hB : B < w.heap.size) (hbB : base ≤ B) (hA : Asc M) (hm : M.length ≤ 1048576) :
    Calls Try.prog 38 #[.pointer (some ⟨B, 0, none⟩), .agg #[.int .i64 x.k, .int .i64 x.n, .string x.s, .int .i64 x.id]] w
      fun e w' => e = .returned (.bool (thereE M x)) ∧ ∃ v', SBox B v' (.func (.func 50) #[] #[]) w' ∧ RowE base v' (offE M x) w' ∧ B < w'.heap.size ∧ Below B w w' := by
  obtain ⟨a, cap, rfl, h0, hc, hE⟩ := hR.slice
  have bA : Below w.heap.size w (w.alloc (.cells #[.int .i64 x.k, .int .i64 x.n, .string x.s, .int .i64 x.id] 38)) := (Below.refl _ _).alloc (Nat.le_refl _) _
  have LA : Hid (Lst B a cap M (w.alloc (.cells #[.int .i64 x.k, .int .i64 x.n, .string x.s, .int .i64 x.id] 38))) := lst_next ⟨hS, hE, hB⟩ bA
  have hX := (Box.start w [.int .i64 x.k, .int .i64 x.n, .string x.s, .int .i64 x.id] 38).four
  have HA : Hid (RowE base (.slice a M.length cap) M (w.alloc (.cells #[.int .i64 x.k, .int .i64 x.n, .string x.s, .int .i64 x.id] 38)) ∧ Below w.heap.size w (w.alloc (.cells #[.int .i64 x.k, .int .i64 x.n, .string x.s, .int .i64 x.id] 38))) := ⟨hR.next bA, bA⟩
  clear bA hS hR hE
  go_enter Try.func38, Try.ntmps38
  go_wp2_with fail
  refine (place_of B a cap M x _ LA.out hA hm).mono ?_
  rintro e w1 ⟨rfl, hb⟩
  have L1 : Hid (Lst B a cap M w1) := lst_next LA.out hb
  have R1 : Hid (RowE base (.slice a M.length cap) M w1 ∧ Below w.heap.size w w1) := ⟨HA.out.1.next hb, HA.out.2.trans (hb.mono (by simp))⟩
  clear hb LA HA hX
  cases hT : thereE M x
  · have hO : Hid (offE M x = M) := by show offE M x = M; rw [offE, hT]; rfl
    go_wp2_with fail
    go_ret
    exact ⟨ret_bool hT.symm, _, L1.out.1, by rw [hO.out]; exact R1.out.1, L1.out.2.2, R1.out.2.mono (Nat.le_of_lt hB)⟩
  · have hp := (thereE_iff x).1 hT
    have hpl := (List.getElem?_eq_some_iff.1 hp).1
    have hO : Hid (offE M x = M.take (posE M x) ++ M.drop (posE M x + 1)) := by show offE M x = _; rw [offE, hT, if_pos rfl]
    obtain ⟨r, hr⟩ : ∃ r, M.length = r + 1 := ⟨M.length - 1, by omega⟩
    have hpr : posE M x ≤ r := by omega
    obtain ⟨b, o, ha, -, -⟩ := L1.out.2.1.at hpl
    subst ha
    have hw := without_entries b o cap (posE M x) r M hr w1 L1.out.2.1 hpr hm
    have s1 := L1.out.1
    have HR : Hid (M.length = r + 1) := hr
    have hw' := hw
    rw [← hr] at hw'
    clear hp hpl hr hw
    go_wp2_with fail
    refine hw'.mono ?_
    rintro e w2 ⟨v2, rfl, hR2, hb⟩
    obtain ⟨a2, n2, c2, hv2⟩ : ∃ a2 n2 c2, v2 = .slice a2 n2 c2 := by obtain ⟨a2, c2, h, -⟩ := hR2.slice; exact ⟨_, _, _, h⟩
    subst hv2
    have hS2 := sbox_next L1.out.1 L1.out.2.2 hb
    have hF : Hid (RowE w1.heap.size (.slice a2 n2 c2) (offE M x) w2 ∧ SBox B (.slice (some ⟨b, o, none⟩) M.length cap) (.func (.func 50) #[] #[]) w2 ∧ Below w.heap.size w w2 ∧ B < w2.heap.size ∧ B < w1.heap.size) :=
      ⟨by rw [hO.out]; exact hR2, hS2, R1.out.2.trans (hb.mono R1.out.2.size), Nat.lt_of_lt_of_le L1.out.2.2 hb.size, L1.out.2.2⟩
    clear hw' hR2 hb L1 R1 s1
    go_wp2_with fail
    go_ret
    exact ⟨ret_bool hT.symm, _, sbox_one hF.out.2.1, (hF.out.1.set hF.out.2.2.2.2).mono (by have := hF.out.2.2.2.2; omega), by simpa [World.setCell] using hF.out.2.2.2.1, (hF.out.2.2.1.mono (Nat.le_of_lt hB)).setCell (Nat.le_refl _) _⟩

end Go.Proofs.Ytobblnlefhkanaa
