/- The contract of spec.IndexOff, over the seat's translation. -/
import Derived.Test.YtobblnlefhkanaaIxP1
import Derived.Test.YtobblnlefhkanaaIxP0
import Derived.Test.YtobblnlefhkanaaIxLies
import Derived.Deep.RegionHeldLaw
namespace Go.Proofs.Ytobblnlefhkanaa
open Go.RowKit

/-- Without x. -/
def offE (M : List AEnt) (x : AEnt) : List AEnt := if thereE M x then M.take (posE M x) ++ M.drop (posE M x + 1) else M

theorem thereE_iff {M : List AEnt} (x : AEnt) : thereE M x = true ↔ M[posE M x]? = some x := by
  unfold thereE isThere
  cases h : M[posE M x]? with
  | none => simp
  | some c => simp [eqE_iff]
theorem at_pos {M : List AEnt} (hA : Asc M) {x : AEnt} {k : Nat} (h : M[k]? = some x) : k = posE M x :=
  isAt_one ⟨by have := (List.getElem?_eq_some_iff.1 h).1; omega, fun t c ht hc => hA.lt ht hc h, fun t c ht hc => by
    by_cases e : k = t
    · subst e; rw [h] at hc; cases hc; exact lessE_irr x
    · exact lessE_asym _ _ (hA.lt (by omega) h hc)⟩ (isAt_pos hA x)
theorem at_there {M : List AEnt} (hA : Asc M) {x : AEnt} {k : Nat} (h : M[k]? = some x) : thereE M x = true := by
  rw [thereE_iff, ← at_pos hA h]; exact h
theorem at_none {M : List AEnt} {x : AEnt} (h : ∀ (i : Nat) (c : AEnt), M[i]? = some c → eqE c x = false) : thereE M x = false := by
  unfold thereE isThere
  cases hc : M[posE M x]? with
  | none => rfl
  | some c => exact h _ c hc

set_option maxRecDepth 100000 in
set_option maxHeartbeats 2000000 in
theorem spec_off (a : Option Addr) (cap : Nat) (L : List AEnt) (x : AEnt) (w : World) (hL : EntsAt w a L) (h0 : a = none → cap = 0) (hc : L.length ≤ cap) (hf : ∀ c ∈ L, c.fit) (hm : L.length ≤ 1048576) :
    Calls Try.prog 17 #[.slice a L.length cap, .agg #[.int .i64 x.k, .int .i64 x.n, .string x.s, .int .i64 x.id]] w
      fun e w' => ∃ v, e = .returned (.tuple #[v, .bool (indexOk L && thereE L x)]) ∧ OwnE w.heap.size v (if indexOk L then offE L x else []) w' ∧ Below w.heap.size w w' := by
  have hm' : L.length ≤ maxLen := by unfold maxLen; omega
  have bA : Below w.heap.size w (w.alloc (.cells #[.int .i64 x.k, .int .i64 x.n, .string x.s, .int .i64 x.id] 38)) := (Below.refl _ _).alloc (Nat.le_refl _) _
  have nB := Box.start w [.int .i64 x.k, .int .i64 x.n, .string x.s, .int .i64 x.id] 38
  cases hI : indexOk L
  · rw [if_neg (by decide), Bool.false_and]
    have hLA := hL.keep bA
    have HB : Hid (Below w.heap.size w (w.alloc (.cells #[.int .i64 x.k, .int .i64 x.n, .string x.s, .int .i64 x.id] 38))) := bA
    clear bA hL nB
    go_enter Try.func17, Try.ntmps17
    go_wp2_with fail
    refine (spec_index _ _ _ _ hLA hf hm').mono ?_
    rintro e w1 ⟨rfl, hb⟩
    rw [hI]
    have hB : Hid (Below w.heap.size w w1) := HB.out.trans (hb.mono (by simp))
    clear hb hLA HB
    have hM := OwnE.made w.heap.size w1 hB.out.size
    go_wp2_with fail
    go_ret2
    exact ⟨_, rfl, hM, hB.out.alloc hB.out.size _⟩
  rw [if_pos rfl, Bool.true_and]
  have hLw : Hid (EntsAt w a L) := hL
  have hA : Asc L := by
    simp only [indexOk, Bool.and_eq_true] at hI
    exact (ascB_iff L).1 hI.2.2
  have hLA : Hid (EntsAt _ a L) := hL.keep bA
  have HB : Hid (Below w.heap.size w (w.alloc (.cells #[.int .i64 x.k, .int .i64 x.n, .string x.s, .int .i64 x.id] 38)) ∧ Box w.heap.size [.int .i64 x.k, .int .i64 x.n, .string x.s, .int .i64 x.id] (w.alloc (.cells #[.int .i64 x.k, .int .i64 x.n, .string x.s, .int .i64 x.id] 38))) := ⟨bA, nB⟩
  clear bA hL nB
  go_enter Try.func17, Try.ntmps17
  go_wp2_with fail
  refine (spec_index _ _ _ _ hLA.out hf hm').mono ?_
  rintro e w1 ⟨rfl, hb⟩
  rw [hI]
  have hB1 : Hid (Below w.heap.size w w1) := HB.out.1.trans (hb.mono (by simp))
  have hL1 : Hid (EntsAt w1 a L) := hLA.out.keep hb
  have hX := (HB.out.2.next hb).four
  clear hb hLA HB
  go_wp2_with fail
  refine (spec_at _ _ _ x _ hL1.out hm').mono ?_
  rintro e w2 ⟨z, rfl, hz, hb⟩
  have hB2 : Hid (Below w.heap.size w w2) := hB1.out.trans (hb.mono hB1.out.size)
  have hL2 : Hid (EntsAt w2 a L) := hL1.out.keep hb
  clear hb hB1 hL1 hX
  rcases hz with ⟨rfl, hz⟩ | ⟨k, rfl, hz⟩
  · have hT : Hid (thereE L x = false) := at_none hz
    have hO : Hid (offE L x = L) := by show offE L x = L; rw [offE, hT.out]; rfl
    clear hz
    go_wp2_with (at_builtin; refine append_ents rfl _ _ rfl w.heap.size _ [] rfl (OwnE.made w.heap.size w2 hB2.out.size) a _ cap L rfl rfl (hL2.out.keep ((Below.refl _ _).alloc (Nat.le_refl _) _)) h0 (by simp; omega) (by have := hB2.out.size; simp; omega) ?_; intro a3 n3 c3 w3 ho hg hn hc)
    have hn' : n3 = L.length := by simpa using hn
    subst hn'
    have hB3 : Hid (Below w.heap.size w w3) := (hB2.out.alloc hB2.out.size _).trans hg
    have ho3 : Hid (OwnE w.heap.size (.slice a3 L.length c3) L w3) := ho
    clear ho hg
    go_ret2
    refine ⟨.slice a3 L.length c3, ?_, by rw [hO.out]; exact ho3.out, hB3.out⟩
    rw [hT.out]
    rfl
  · have hT : Hid (thereE L x = true) := at_there hA hz
    have hkl : k < L.length := (List.getElem?_eq_some_iff.1 hz).1
    have hO : Hid (offE L x = L.take k ++ L.drop (k + 1)) := by show offE L x = _; rw [offE, hT.out, if_pos rfl, ← at_pos hA hz]
    clear hz
    have hkl1 : (k : Int) + 1 ≤ L.length := by omega
    have hkc : k ≤ cap := by omega
    have hk0 : (0 : Int) ≤ (k : Int) + 1 := by omega
    have hwk : IntKind.i64.wrap ((k : Int) + 1) = (k : Int) + 1 := by
      simp [IntKind.wrap, IntKind.bits, IntKind.signed]
      omega
    have hA2 : LiesE w a L w2 := ⟨hL2.out, hB2.out⟩
    obtain ⟨b, o, rfl, -, -⟩ := hL2.out.at hkl
    have hbw : b < w.heap.size := by
      rcases hLw.out with h | ⟨b', o', e, h, _⟩
      · rw [h] at hkl; simp at hkl
      · cases e; exact h
    have hz2 : w.heap.size ≤ w2.heap.size := hB2.out.size
    clear hL2 hB2
    by_cases hce : cap = k + 1
    · go_wp2_with fail
      go_region_held_law (fun W => LiesE w (some ⟨b, o, none⟩) L W) (first | assumption | exact liese_drew (by assumption) | exact liese_next (by assumption) ((Below.refl _ _).alloc (Nat.le_refl _) _) | exact liese_drew (liese_next (by assumption) ((Below.refl _ _).alloc (Nat.le_refl _) _)) | exact liese_far (by assumption) hbw (by assumption))
        (first
          | (refine step_ents (some 23) rfl rfl _ _ rfl w.heap.size _ [] rfl (OwnE.made w.heap.size _ hz2) _ _ _ (L.take k) rfl (by simp; omega) (ents_take (And.left ‹LiesE w (some ⟨b, o, none⟩) L _›) k) (fun h => by cases h) (by simp; omega) (by simp; omega) ?_; intro a3 n3 c3 w3 ho hg hn hc3; (try simp only [Act.put, List.setIfInBounds_toArray, List.set_cons_zero, List.set_cons_succ]); clear hn hc3)
          | (refine step_ents (some 28) rfl rfl _ _ rfl w.heap.size _ ([] ++ L.take k) rfl ho _ _ _ (L.drop (k + 1)) rfl (by simp) (Or.inl (by simp; omega)) (fun h => by cases h) (by simp; omega) (And.right ‹LiesE w (some ⟨b, o, none⟩) L _›).size ?_; intro a4 n4 c4 w4 ho4 hg4 hn4 hc4; (try simp only [Act.put, List.setIfInBounds_toArray, List.set_cons_zero, List.set_cons_succ]); clear hn4 hc4 ho))
      all_goals
        have hZ := ‹LiesE w (some ⟨b, o, none⟩) L _›
        have hF : Hid (OwnE w.heap.size (.slice a4 n4 c4) (offE L x) w4 ∧ Below w.heap.size w w4) := ⟨by rw [hO.out]; simpa using ho4, hZ.2⟩
        clear hZ ho4 hg4 hg
        go_wp2_with fail
        go_ret2
        exact ⟨.slice a4 n4 c4, by rw [hT.out]; rfl, hF.out.1, hF.out.2⟩
    · go_wp2_with fail
      go_region_held_law (fun W => LiesE w (some ⟨b, o, none⟩) L W) (first | assumption | exact liese_drew (by assumption) | exact liese_next (by assumption) ((Below.refl _ _).alloc (Nat.le_refl _) _) | exact liese_drew (liese_next (by assumption) ((Below.refl _ _).alloc (Nat.le_refl _) _)) | exact liese_far (by assumption) hbw (by assumption))
        (first
          | (refine step_ents (some 23) rfl rfl _ _ rfl w.heap.size _ [] rfl (OwnE.made w.heap.size _ hz2) _ _ _ (L.take k) rfl (by simp; omega) (ents_take (And.left ‹LiesE w (some ⟨b, o, none⟩) L _›) k) (fun h => by cases h) (by simp; omega) (by simp; omega) ?_; intro a3 n3 c3 w3 ho hg hn hc3; (try simp only [Act.put, List.setIfInBounds_toArray, List.set_cons_zero, List.set_cons_succ]); clear hn hc3)
          | (refine step_ents (some 28) rfl rfl _ _ rfl w.heap.size _ ([] ++ L.take k) rfl ho _ _ _ (L.drop (k + 1)) rfl (by simp) (ents_drop (And.left ‹LiesE w (some ⟨b, o, none⟩) L _›) (k + 1)) (fun h => by cases h) (by simp; omega) (And.right ‹LiesE w (some ⟨b, o, none⟩) L _›).size ?_; intro a4 n4 c4 w4 ho4 hg4 hn4 hc4; (try simp only [Act.put, List.setIfInBounds_toArray, List.set_cons_zero, List.set_cons_succ]); clear hn4 hc4 ho))
      have hZ := ‹LiesE w (some ⟨b, o, none⟩) L _›
      have hF : Hid (OwnE w.heap.size (.slice a4 n4 c4) (offE L x) w4 ∧ Below w.heap.size w w4) := ⟨by rw [hO.out]; simpa using ho4, hZ.2⟩
      clear hZ ho4 hg4 hg
      go_wp2_with fail
      go_ret2
      exact ⟨.slice a4 n4 c4, by rw [hT.out]; rfl, hF.out.1, hF.out.2⟩

end Go.Proofs.Ytobblnlefhkanaa
