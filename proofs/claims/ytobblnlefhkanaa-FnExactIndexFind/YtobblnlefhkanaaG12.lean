/- The contract of spec.l8At, over the seat's translation. -/
import Derived.Test.YtobblnlefhkanaaG08
import Derived.Test.YtobblnlefhkanaaG10
import Derived.Test.YtobblnlefhkanaaG07
import Derived.Deep.RegionHeldLaw
namespace Go.Proofs.Ytobblnlefhkanaa
open Go.RowKit

set_option maxHeartbeats 1000000 in
theorem eql_entry (c d : AEnt) (w : World) :
    (binOp .eql 38 (.agg #[.int .i64 c.k, .int .i64 c.n, .string c.s, .int .i64 c.id]) (.agg #[.int .i64 d.k, .int .i64 d.n, .string d.s, .int .i64 d.id])).run Try.prog w = .ok (.bool (eqE c d)) w := by
  unfold eqE eqV
  go_simp
  by_cases a : c.k = d.k <;> by_cases b : c.n = d.n <;> by_cases e : c.s.toList = d.s.toList <;> by_cases f : c.id = d.id <;> simp [a, b, e, f]

/-- Where x stands first, or -1. -/
def AtE (L : List AEnt) (x : AEnt) (z : Int) : Prop := (z = -1 ∧ ∀ (i : Nat) (c : AEnt), L[i]? = some c → eqE c x = false) ∨ ∃ k : Nat, z = k ∧ L[k]? = some x

set_option maxRecDepth 100000 in
set_option maxHeartbeats 2000000 in
theorem spec_at (a : Option Addr) (cap : Nat) (L : List AEnt) (x : AEnt) (w : World) (hL : EntsAt w a L) (hm : L.length ≤ maxLen) :
    Calls Try.prog 37 #[.slice a L.length cap, .agg #[.int .i64 x.k, .int .i64 x.n, .string x.s, .int .i64 x.id]] w fun e w' => ∃ z, e = .returned (.int .i64 z) ∧ AtE L x z ∧ Below w.heap.size w w' := by
  have hm' := hm
  unfold maxLen at hm'
  have bA : Hid (Below w.heap.size w (w.alloc (.cells #[.int .i64 x.k, .int .i64 x.n, .string x.s, .int .i64 x.id] 38))) := (Below.refl _ _).alloc (Nat.le_refl _) _
  have nB : Hid (Box w.heap.size [.int .i64 x.k, .int .i64 x.n, .string x.s, .int .i64 x.id] (w.alloc (.cells #[.int .i64 x.k, .int .i64 x.n, .string x.s, .int .i64 x.id] 38))) := Box.start _ _ _
  go_enter Try.func37, Try.ntmps37
  go_wp2_with fail
  go_loopw [5] (fun i wr => ∃ k : Nat, k ≤ L.length ∧ i = .int .i64 k ∧ Hid ((∀ i c, i < k → L[i]? = some c → eqE c x = false) ∧ Box w.heap.size [.int .i64 x.k, .int .i64 x.n, .string x.s, .int .i64 x.id] wr ∧ Below w.heap.size w wr)) (fun i _ => L.length - (intOf i).toNat)
  case atStart => exact ⟨0, Nat.zero_le _, rfl, ⟨fun i c hi => absurd hi (Nat.not_lt_zero _), nB.out, bA.out⟩⟩
  case round =>
    obtain ⟨k, hk, rfl, hH⟩ := hrel
    clear bA nB
    by_cases hlt : k < L.length
    · obtain ⟨b, o, hab, hbl, hr⟩ := (hL.keep hH.out.2.2).at hlt
      have hc := List.getElem?_eq_getElem hlt
      revert hr hc
      generalize L[k] = c
      intro hr hc
      have hix : ∀ wx, (Instr.indexAt 25 (.slice a L.length cap) (.int .i64 k)).run Try.prog wx = .ok (.pointer (some ⟨b, o + k * 4, none⟩)) wx := fun wx => by
        rw [hab]; exact run_ix4 _ _ _ _ _ _ _ wx hlt Try.underlying25 (Try.sizeOf38 wx)
      have hT1 := cells4_of hr
      have hT2 := hH.out.2.1.four
      have hq := eql_entry c x
      have hC : Hid (L[k]? = some c) := hc
      clear hab hr hL hbl hc
      cases hs : eqE c x
      · have hE : Hid (eqE c x = false) := hs
        go_wp2_with fail
        go_quiet (fail)
        have hP : Hid (Box w.heap.size [.int .i64 x.k, .int .i64 x.n, .string x.s, .int .i64 x.id] (wr.drewN nq) ∧ Below w.heap.size w (wr.drewN nq)) := ⟨hH.out.2.1.next (quiet_below _ _ _), hH.out.2.2.trans (quiet_below _ _ _)⟩
        clear hT1 hT2 hq
        go_wp2_with fail
        go_roundw
        case rel =>
          refine ⟨k + 1, by omega, by go_num, ⟨fun i d hi hd => ?_, hP.out.1, hP.out.2⟩⟩
          by_cases hik : i = k
          · subst hik
            rw [hC.out] at hd; cases hd
            exact hE.out
          · exact hH.out.1 i d (by omega) hd
        case measure => simp [intOf]; omega
      · have hE : Hid (eqE c x = true) := hs
        go_wp2_with fail
        go_quiet (fail)
        have hP : Hid (Below w.heap.size w (wr.drewN nq)) := hH.out.2.2.trans (quiet_below _ _ _)
        clear hT1 hT2 hq
        go_wp2_with fail
        go_ret
        exact ⟨_, rfl, Or.inr ⟨k, rfl, by rw [hC.out, eqE_ext hE.out]⟩, hP.out⟩
    · have hkl : k = L.length := by omega
      subst hkl
      go_wp2_with fail
      go_ret
      exact ⟨_, rfl, Or.inl ⟨rfl, fun i c hc => hH.out.1 i c (List.getElem?_eq_some_iff.1 hc).1 hc⟩, hH.out.2.2⟩

end Go.Proofs.Ytobblnlefhkanaa

/- The contract of spec.IndexOff, over the seat's translation. -/
namespace Go.Proofs.Ytobblnlefhkanaa
open Go.RowKit

/-- Without x. -/
def offE (M : List AEnt) (x : AEnt) : List AEnt := if thereE M x then M.take (posE M x) ++ M.drop (posE M x + 1) else M

theorem thereE_iff {M : List AEnt} (x : AEnt) : thereE M x = true ↔ M[posE M x]? = some x := by
  unfold thereE isThere
  cases h : M[posE M x]? with
  | none => simp
  | some c => simp [eqE_iff]
theorem at_pos {M : List AEnt} (hA : Asc M) {x : AEnt} {k : Nat} (h : M[k]? = some x) : k = posE M x :=
  isAt_one ⟨by have := (List.getElem?_eq_some_iff.1 h).1; omega, fun t c ht hc => hA.lt ht hc h, fun t c ht hc => by
    by_cases e : k = t
    · subst e; rw [h] at hc; cases hc; exact lessE_irr x
    · exact lessE_asym _ _ (hA.lt (by omega) h hc)⟩ (isAt_pos hA x)
theorem at_there {M : List AEnt} (hA : Asc M) {x : AEnt} {k : Nat} (h : M[k]? = some x) : thereE M x = true := by
  rw [thereE_iff, ← at_pos hA h]; exact h
theorem at_none {M : List AEnt} {x : AEnt} (h : ∀ (i : Nat) (c : AEnt), M[i]? = some c → eqE c x = false) : thereE M x = false := by
  unfold thereE isThere
  cases hc : M[posE M x]? with
  | none => rfl
  | some c => exact h _ c hc

set_option maxRecDepth 100000 in
set_option maxHeartbeats 2000000 in
theorem spec_off (a : Option Addr) (cap : Nat) (L : List AEnt) (x : AEnt) (w : World) (hL : EntsAt w a L) (h0 : a = none → cap = 0) (hc : L.length ≤ cap) (hf : ∀ c ∈ L, c.fit) (hm : L.length ≤ 1048576) :
    Calls Try.prog 17 #[.slice a L.length cap, .agg #[.int .i64 x.k, .int .i64 x.n, .string x.s, .int .i64 x.id]] w
      fun e w' => ∃ v, e = .returned (.tuple #[v, .bool (indexOk L && thereE L x)]) ∧ OwnE w.heap.size v (if indexOk L then offE L x else []) w' ∧ Below w.heap.size w w' := by
  have hm' : L.length ≤ maxLen := by unfold maxLen; omega
  have bA : Below w.heap.size w (w.alloc (.cells #[.int .i64 x.k, .int .i64 x.n, .string x.s, .int .i64 x.id] 38)) := (Below.refl _ _).alloc (Nat.le_refl _) _
  have nB := Box.start w [.int .i64 x.k, .int .i64 x.n, .string x.s, .int .i64 x.id] 38
  cases hI : indexOk L
  · rw [if_neg (by decide), Bool.false_and]
    have hLA := hL.keep bA
    have HB : Hid (Below w.heap.size w (w.alloc (.cells #[.int .i64 x.k, .int .i64 x.n, .string x.s, .int .i64 x.id] 38))) := bA
    clear bA hL nB
    go_enter Try.func17, Try.ntmps17
    go_wp2_with fail
    refine (spec_index _ _ _ _ hLA hf hm').mono ?_
    rintro e w1 ⟨rfl, hb⟩
    rw [hI]
    have hB : Hid (Below w.heap.size w w1) := HB.out.trans (hb.mono (by simp))
    clear hb hLA HB
    have hM := OwnE.made w.heap.size w1 hB.out.size
    go_wp2_with fail
    go_ret2
    exact ⟨_, rfl, hM, hB.out.alloc hB.out.size _⟩
  rw [if_pos rfl, Bool.true_and]
  have hLw : Hid (EntsAt w a L) := hL
  have hA : Asc L := by
    simp only [indexOk, Bool.and_eq_true] at hI
    exact (ascB_iff L).1 hI.2.2
  have hLA : Hid (EntsAt _ a L) := hL.keep bA
  have HB : Hid (Below w.heap.size w (w.alloc (.cells #[.int .i64 x.k, .int .i64 x.n, .string x.s, .int .i64 x.id] 38)) ∧ Box w.heap.size [.int .i64 x.k, .int .i64 x.n, .string x.s, .int .i64 x.id] (w.alloc (.cells #[.int .i64 x.k, .int .i64 x.n, .string x.s, .int .i64 x.id] 38))) := ⟨bA, nB⟩
  clear bA hL nB
  go_enter Try.func17, Try.ntmps17
  go_wp2_with fail
  refine (spec_index _ _ _ _ hLA.out hf hm').mono ?_
  rintro e w1 ⟨rfl, hb⟩
  rw [hI]
  have hB1 : Hid (Below w.heap.size w w1) := HB.out.1.trans (hb.mono (by simp))
  have hL1 : Hid (EntsAt w1 a L) := hLA.out.keep hb
  have hX := (HB.out.2.next hb).four
  clear hb hLA HB
  go_wp2_with fail
  refine (spec_at _ _ _ x _ hL1.out hm').mono ?_
  rintro e w2 ⟨z, rfl, hz, hb⟩
  have hB2 : Hid (Below w.heap.size w w2) := hB1.out.trans (hb.mono hB1.out.size)
  have hL2 : Hid (EntsAt w2 a L) := hL1.out.keep hb
  clear hb hB1 hL1 hX
  rcases hz with ⟨rfl, hz⟩ | ⟨k, rfl, hz⟩
  · have hT : Hid (thereE L x = false) := at_none hz
    have hO : Hid (offE L x = L) := by show offE L x = L; rw [offE, hT.out]; rfl
    clear hz
    go_wp2_with (at_builtin; refine append_ents rfl _ _ rfl w.heap.size _ [] rfl (OwnE.made w.heap.size w2 hB2.out.size) a _ cap L rfl rfl (hL2.out.keep ((Below.refl _ _).alloc (Nat.le_refl _) _)) h0 (by simp; omega) (by have := hB2.out.size; simp; omega) ?_; intro a3 n3 c3 w3 ho hg hn hc)
    have hn' : n3 = L.length := by simpa using hn
    subst hn'
    have hB3 : Hid (Below w.heap.size w w3) := (hB2.out.alloc hB2.out.size _).trans hg
    have ho3 : Hid (OwnE w.heap.size (.slice a3 L.length c3) L w3) := ho
    clear ho hg
    go_ret2
    refine ⟨.slice a3 L.length c3, ?_, by rw [hO.out]; exact ho3.out, hB3.out⟩
    rw [hT.out]
    rfl
  · have hT : Hid (thereE L x = true) := at_there hA hz
    have hkl : k < L.length := (List.getElem?_eq_some_iff.1 hz).1
    have hO : Hid (offE L x = L.take k ++ L.drop (k + 1)) := by show offE L x = _; rw [offE, hT.out, if_pos rfl, ← at_pos hA hz]
    clear hz
    have hkl1 : (k : Int) + 1 ≤ L.length := by omega
    have hkc : k ≤ cap := by omega
    have hk0 : (0 : Int) ≤ (k : Int) + 1 := by omega
    have hwk : IntKind.i64.wrap ((k : Int) + 1) = (k : Int) + 1 := by
      simp [IntKind.wrap, IntKind.bits, IntKind.signed]
      omega
    have hA2 : LiesE w a L w2 := ⟨hL2.out, hB2.out⟩
    obtain ⟨b, o, rfl, -, -⟩ := hL2.out.at hkl
    have hbw : b < w.heap.size := by
      rcases hLw.out with h | ⟨b', o', e, h, _⟩
      · rw [h] at hkl; simp at hkl
      · cases e; exact h
    have hz2 : w.heap.size ≤ w2.heap.size := hB2.out.size
    clear hL2 hB2
    by_cases hce : cap = k + 1
    · go_wp2_with fail
      go_region_held_law (fun W => LiesE w (some ⟨b, o, none⟩) L W) (first | assumption | exact liese_drew (by assumption) | exact liese_next (by assumption) ((Below.refl _ _).alloc (Nat.le_refl _) _) | exact liese_drew (liese_next (by assumption) ((Below.refl _ _).alloc (Nat.le_refl _) _)) | exact liese_far (by assumption) hbw (by assumption))
        (first
          | (refine step_ents (some 23) rfl rfl _ _ rfl w.heap.size _ [] rfl (OwnE.made w.heap.size _ hz2) _ _ _ (L.take k) rfl (by simp; omega) (ents_take (And.left ‹LiesE w (some ⟨b, o, none⟩) L _›) k) (fun h => by cases h) (by simp; omega) (by simp; omega) ?_; intro a3 n3 c3 w3 ho hg hn hc3; (try simp only [Act.put, List.setIfInBounds_toArray, List.set_cons_zero, List.set_cons_succ]); clear hn hc3)
          | (refine step_ents (some 28) rfl rfl _ _ rfl w.heap.size _ ([] ++ L.take k) rfl ho _ _ _ (L.drop (k + 1)) rfl (by simp) (Or.inl (by simp; omega)) (fun h => by cases h) (by simp; omega) (And.right ‹LiesE w (some ⟨b, o, none⟩) L _›).size ?_; intro a4 n4 c4 w4 ho4 hg4 hn4 hc4; (try simp only [Act.put, List.setIfInBounds_toArray, List.set_cons_zero, List.set_cons_succ]); clear hn4 hc4 ho))
      all_goals
        have hZ := ‹LiesE w (some ⟨b, o, none⟩) L _›
        have hF : Hid (OwnE w.heap.size (.slice a4 n4 c4) (offE L x) w4 ∧ Below w.heap.size w w4) := ⟨by rw [hO.out]; simpa using ho4, hZ.2⟩
        clear hZ ho4 hg4 hg
        go_wp2_with fail
        go_ret2
        exact ⟨.slice a4 n4 c4, by rw [hT.out]; rfl, hF.out.1, hF.out.2⟩
    · go_wp2_with fail
      go_region_held_law (fun W => LiesE w (some ⟨b, o, none⟩) L W) (first | assumption | exact liese_drew (by assumption) | exact liese_next (by assumption) ((Below.refl _ _).alloc (Nat.le_refl _) _) | exact liese_drew (liese_next (by assumption) ((Below.refl _ _).alloc (Nat.le_refl _) _)) | exact liese_far (by assumption) hbw (by assumption))
        (first
          | (refine step_ents (some 23) rfl rfl _ _ rfl w.heap.size _ [] rfl (OwnE.made w.heap.size _ hz2) _ _ _ (L.take k) rfl (by simp; omega) (ents_take (And.left ‹LiesE w (some ⟨b, o, none⟩) L _›) k) (fun h => by cases h) (by simp; omega) (by simp; omega) ?_; intro a3 n3 c3 w3 ho hg hn hc3; (try simp only [Act.put, List.setIfInBounds_toArray, List.set_cons_zero, List.set_cons_succ]); clear hn hc3)
          | (refine step_ents (some 28) rfl rfl _ _ rfl w.heap.size _ ([] ++ L.take k) rfl ho _ _ _ (L.drop (k + 1)) rfl (by simp) (ents_drop (And.left ‹LiesE w (some ⟨b, o, none⟩) L _›) (k + 1)) (fun h => by cases h) (by simp; omega) (And.right ‹LiesE w (some ⟨b, o, none⟩) L _›).size ?_; intro a4 n4 c4 w4 ho4 hg4 hn4 hc4; (try simp only [Act.put, List.setIfInBounds_toArray, List.set_cons_zero, List.set_cons_succ]); clear hn4 hc4 ho))
      have hZ := ‹LiesE w (some ⟨b, o, none⟩) L _›
      have hF : Hid (OwnE w.heap.size (.slice a4 n4 c4) (offE L x) w4 ∧ Below w.heap.size w w4) := ⟨by rw [hO.out]; simpa using ho4, hZ.2⟩
      clear hZ ho4 hg4 hg
      go_wp2_with fail
      go_ret2
      exact ⟨.slice a4 n4 c4, by rw [hT.out]; rfl, hF.out.1, hF.out.2⟩

end Go.Proofs.Ytobblnlefhkanaa

/- The contracts of impl.without and of (*impl.sorted).off at entries, over the seat's translation. -/
namespace Go.Proofs.Ytobblnlefhkanaa
open Go.RowKit

set_option maxRecDepth 100000 in
set_option maxHeartbeats 2000000 in
theorem without_entries (b o cap i r : Nat) (M : List AEnt) (hM : M.length = r + 1) (w : World) (hE : EntsAt w (some ⟨b, o, none⟩) M) (hi : i ≤ r) (hl : M.length ≤ 1048576) :
    Calls Try.prog 54 #[.slice (some ⟨b, o, none⟩) (r + 1) cap, .int .i64 i] w
      fun e w' => ∃ v, e = .returned v ∧ RowE w.heap.size v (M.take i ++ M.drop (i + 1)) w' ∧ Below w.heap.size w w' := by
  have hwk : IntKind.i64.wrap ((i : Int) + 1) = (i : Int) + 1 := by
    simp [IntKind.wrap, IntKind.bits, IntKind.signed]
    omega
  have hcl := clone_entries b o cap M w hE hl (by omega)
  rw [hM] at hcl
  have hHM : Hid (M.length = r + 1) := hM
  clear hE hM
  go_enter Try.func54, Try.ntmps54
  go_wp2_with fail
  refine hcl.mono ?_
  rintro e w1 ⟨g, c, rfl, hO, hb⟩
  have hO' : Hid (OwnE w.heap.size (.slice (some ⟨g, 0, none⟩) M.length c) M w1) := by show OwnE _ _ _ _; rw [hHM.out]; exact hO
  have hB : Hid (Below w.heap.size w w1) := hb
  clear hcl hO hb
  go_wp2_with fail
  refine (delete_entries g c i r M hHM.out w1 w.heap.size hO'.out hi hl hB.out.size).mono ?_
  rintro e w2 ⟨v, rfl, hR, hb⟩
  obtain ⟨a2, n2, c2, hv2⟩ : ∃ a2 n2 c2, v = .slice a2 n2 c2 := by obtain ⟨a2, c2, h, -⟩ := hR.slice; exact ⟨_, _, _, h⟩
  subst hv2
  have hF : Hid (RowE w.heap.size (.slice a2 n2 c2) (M.take i ++ M.drop (i + 1)) w2 ∧ Below w.heap.size w w2) := ⟨hR, hB.out.trans hb⟩
  clear hR hb hO' hB
  go_wp2_with fail
  go_ret
  exact ⟨_, rfl, hF.out.1, hF.out.2⟩

theorem sbox_one {B : Nat} {v f v' : Value} {W : World} (h : SBox B v f W) : SBox B v' f (W.setCell ⟨B, 0, none⟩ v') := by
  obtain ⟨h1, h2, h3, h4⟩ := h
  refine ⟨?_, ?_, ?_, ?_⟩
  all_goals go_simp
theorem RowE.set {base B o : Nat} {v u : Value} {L : List AEnt} {W : World} (h : RowE base v L W) (hB : B < base) : RowE base v L (W.setCell ⟨B, o, none⟩ u) := by
  rcases h with h | ⟨b, cap, hv, h1, h2, h3, h4, h5⟩
  · exact Or.inl h
  · have hne : ¬ b = B := by omega
    refine Or.inr ⟨b, cap, hv, h1, by simpa [World.setCell] using h2, h3, ?_, fun j hj => ?_⟩
    · rcases h4 with h | ⟨b', o', e, hlt, hr⟩
      · exact Or.inl h
      · cases e
        exact Or.inr ⟨b, 0, rfl, by simpa [World.setCell] using hlt, fun i c hc j v hv => by rw [cell_set hne]; exact hr i c hc j v hv⟩
    · rw [cell_set hne, frozen_set hne]; exact h5 j hj

set_option maxRecDepth 100000 in
set_option maxHeartbeats 2000000 in
theorem off_entries (B base : Nat) (v : Value) (M : List AEnt) (x : AEnt) (w : World) (hS : SBox B v (.func (.func 50) #[] #[]) w) (hR : RowE base v M w) (hB : B < w.heap.size) (hbB : base ≤ B) (hA : Asc M) (hm : M.length ≤ 1048576) :
    Calls Try.prog 38 #[.pointer (some ⟨B, 0, none⟩), .agg #[.int .i64 x.k, .int .i64 x.n, .string x.s, .int .i64 x.id]] w
      fun e w' => e = .returned (.bool (thereE M x)) ∧ ∃ v', SBox B v' (.func (.func 50) #[] #[]) w' ∧ RowE base v' (offE M x) w' ∧ B < w'.heap.size ∧ Below B w w' := by
  obtain ⟨a, cap, rfl, h0, hc, hE⟩ := hR.slice
  have bA : Below w.heap.size w (w.alloc (.cells #[.int .i64 x.k, .int .i64 x.n, .string x.s, .int .i64 x.id] 38)) := (Below.refl _ _).alloc (Nat.le_refl _) _
  have LA : Hid (Lst B a cap M (w.alloc (.cells #[.int .i64 x.k, .int .i64 x.n, .string x.s, .int .i64 x.id] 38))) := lst_next ⟨hS, hE, hB⟩ bA
  have hX := (Box.start w [.int .i64 x.k, .int .i64 x.n, .string x.s, .int .i64 x.id] 38).four
  have HA : Hid (RowE base (.slice a M.length cap) M (w.alloc (.cells #[.int .i64 x.k, .int .i64 x.n, .string x.s, .int .i64 x.id] 38)) ∧ Below w.heap.size w (w.alloc (.cells #[.int .i64 x.k, .int .i64 x.n, .string x.s, .int .i64 x.id] 38))) := ⟨hR.next bA, bA⟩
  clear bA hS hR hE
  go_enter Try.func38, Try.ntmps38
  go_wp2_with fail
  refine (place_of B a cap M x _ LA.out hA hm).mono ?_
  rintro e w1 ⟨rfl, hb⟩
  have L1 : Hid (Lst B a cap M w1) := lst_next LA.out hb
  have R1 : Hid (RowE base (.slice a M.length cap) M w1 ∧ Below w.heap.size w w1) := ⟨HA.out.1.next hb, HA.out.2.trans (hb.mono (by simp))⟩
  clear hb LA HA hX
  cases hT : thereE M x
  · have hO : Hid (offE M x = M) := by show offE M x = M; rw [offE, hT]; rfl
    go_wp2_with fail
    go_ret
    exact ⟨ret_bool hT.symm, _, L1.out.1, by rw [hO.out]; exact R1.out.1, L1.out.2.2, R1.out.2.mono (Nat.le_of_lt hB)⟩
  · have hp := (thereE_iff x).1 hT
    have hpl := (List.getElem?_eq_some_iff.1 hp).1
    have hO : Hid (offE M x = M.take (posE M x) ++ M.drop (posE M x + 1)) := by show offE M x = _; rw [offE, hT, if_pos rfl]
    obtain ⟨r, hr⟩ : ∃ r, M.length = r + 1 := ⟨M.length - 1, by omega⟩
    have hpr : posE M x ≤ r := by omega
    obtain ⟨b, o, ha, -, -⟩ := L1.out.2.1.at hpl
    subst ha
    have hw := without_entries b o cap (posE M x) r M hr w1 L1.out.2.1 hpr hm
    have s1 := L1.out.1
    have HR : Hid (M.length = r + 1) := hr
    have hw' := hw
    rw [← hr] at hw'
    clear hp hpl hr hw
    go_wp2_with fail
    refine hw'.mono ?_
    rintro e w2 ⟨v2, rfl, hR2, hb⟩
    obtain ⟨a2, n2, c2, hv2⟩ : ∃ a2 n2 c2, v2 = .slice a2 n2 c2 := by obtain ⟨a2, c2, h, -⟩ := hR2.slice; exact ⟨_, _, _, h⟩
    subst hv2
    have hS2 := sbox_next L1.out.1 L1.out.2.2 hb
    have hF : Hid (RowE w1.heap.size (.slice a2 n2 c2) (offE M x) w2 ∧ SBox B (.slice (some ⟨b, o, none⟩) M.length cap) (.func (.func 50) #[] #[]) w2 ∧ Below w.heap.size w w2 ∧ B < w2.heap.size ∧ B < w1.heap.size) :=
      ⟨by rw [hO.out]; exact hR2, hS2, R1.out.2.trans (hb.mono R1.out.2.size), Nat.lt_of_lt_of_le L1.out.2.2 hb.size, L1.out.2.2⟩
    clear hw' hR2 hb L1 R1 s1
    go_wp2_with fail
    go_ret
    exact ⟨ret_bool hT.symm, _, sbox_one hF.out.2.1, (hF.out.1.set hF.out.2.2.2.2).mono (by have := hF.out.2.2.2.2; omega), by simpa [World.setCell] using hF.out.2.2.2.1, (hF.out.2.2.1.mono (Nat.le_of_lt hB)).setCell (Nat.le_refl _) _⟩

end Go.Proofs.Ytobblnlefhkanaa

/- The contract of impl.IndexOff, over the seat's translation. -/
namespace Go.Proofs.Ytobblnlefhkanaa
open Go.RowKit

theorem asc_of {L : List AEnt} (h : indexOk L = true) : Asc L := by
  simp only [indexOk, Bool.and_eq_true] at h
  exact (ascB_iff L).1 h.2.2
theorem asc_nil : Asc [] := fun i c d hc => by simp at hc
/-- The list that is made: that of the entries, if they are right. -/
def okE (L : List AEnt) : List AEnt := if indexOk L then L else []
theorem okE_asc (L : List AEnt) : Asc (okE L) := by
  unfold okE
  cases h : indexOk L
  · exact asc_nil
  · exact asc_of h
theorem okE_len (L : List AEnt) : (okE L).length ≤ 16 := by
  unfold okE
  cases h : indexOk L
  · exact Nat.zero_le _
  · simp only [indexOk, Bool.and_eq_true, decide_eq_true_eq] at h
    exact h.1
theorem off_nil (x : AEnt) : offE [] x = [] := by unfold offE thereE isThere; simp
theorem there_nil (x : AEnt) : thereE [] x = false := by unfold thereE isThere; simp
theorem off_okE (L : List AEnt) (x : AEnt) : offE (okE L) x = if indexOk L then offE L x else [] := by
  unfold okE
  cases indexOk L
  · exact off_nil x
  · rfl
theorem there_okE (L : List AEnt) (x : AEnt) : thereE (okE L) x = (indexOk L && thereE L x) := by
  unfold okE
  cases indexOk L
  · exact there_nil x
  · rfl

set_option maxRecDepth 100000 in
set_option maxHeartbeats 2000000 in
theorem impl_off (a : Option Addr) (cap : Nat) (L : List AEnt) (x : AEnt) (w : World) (hL : EntsAt w a L) (h0 : a = none → cap = 0) (hf : ∀ c ∈ L, c.fit) (hm : L.length ≤ 1048576) :
    Calls Try.prog 19 #[.slice a L.length cap, .agg #[.int .i64 x.k, .int .i64 x.n, .string x.s, .int .i64 x.id]] w
      fun e w' => ∃ v, e = .returned (.tuple #[v, .bool (indexOk L && thereE L x)]) ∧ RowE w.heap.size v (if indexOk L then offE L x else []) w' ∧ Below w.heap.size w w' := by
  have hm' : L.length ≤ maxLen := by unfold maxLen; omega
  rw [← off_okE, ← there_okE]
  have bA : Below w.heap.size w (w.alloc (.cells #[.int .i64 x.k, .int .i64 x.n, .string x.s, .int .i64 x.id] 38)) := (Below.refl _ _).alloc (Nat.le_refl _) _
  have LA : Hid (EntsAt (w.alloc (.cells #[.int .i64 x.k, .int .i64 x.n, .string x.s, .int .i64 x.id] 38)) a L) := hL.keep bA
  have hX := Box.start w [.int .i64 x.k, .int .i64 x.n, .string x.s, .int .i64 x.id] 38
  have HA : Hid (Box w.heap.size [.int .i64 x.k, .int .i64 x.n, .string x.s, .int .i64 x.id] (w.alloc (.cells #[.int .i64 x.k, .int .i64 x.n, .string x.s, .int .i64 x.id] 38)) ∧ Below w.heap.size w (w.alloc (.cells #[.int .i64 x.k, .int .i64 x.n, .string x.s, .int .i64 x.id] 38))) := ⟨hX, bA⟩
  clear bA hL hX
  go_enter Try.func19, Try.ntmps19
  go_wp2_with fail
  refine (entries_of a cap L _ LA.out h0 hf hm').mono ?_
  rintro e w1 ⟨v, rfl, hv, hb⟩
  have hv' : OwnE w.heap.size v (okE L) w1 := hv.mono (by simp)
  have HX : Hid (Box w.heap.size [.int .i64 x.k, .int .i64 x.n, .string x.s, .int .i64 x.id] w1 ∧ Below w.heap.size w w1) := ⟨HA.out.1.next hb, HA.out.2.trans (hb.mono (by simp))⟩
  obtain ⟨r, hr⟩ : ∃ r, r = indexOk L := ⟨_, rfl⟩
  rw [← hr]
  obtain ⟨a1, n1, c1, hV⟩ : ∃ a1 n1 c1, v = .slice a1 n1 c1 := by obtain ⟨a1, c1, h, -, -⟩ := hv.slice; exact ⟨a1, _, c1, h⟩
  subst hV
  have hR1 : Hid (RowE w.heap.size (.slice a1 n1 c1) (okE L) w1) := hv'.row
  have b1 : Below w1.heap.size w1 (w1.alloc (.cells #[.slice a1 n1 c1, .func (.func 50) #[] #[]] 55)) := (Below.refl _ _).alloc (Nat.le_refl _) _
  have x1 := (HX.out.1.next b1).four
  have hS := sbox_box w1 (.slice a1 n1 c1) (.func (.func 50) #[] #[]) 55
  have H1 : Hid (RowE w.heap.size (.slice a1 n1 c1) (okE L) (w1.alloc (.cells #[.slice a1 n1 c1, .func (.func 50) #[] #[]] 55)) ∧ SBox w1.heap.size (.slice a1 n1 c1) (.func (.func 50) #[] #[]) (w1.alloc (.cells #[.slice a1 n1 c1, .func (.func 50) #[] #[]] 55)) ∧ Below w.heap.size w (w1.alloc (.cells #[.slice a1 n1 c1, .func (.func 50) #[] #[]] 55)) ∧ w.heap.size ≤ w1.heap.size) :=
    ⟨hR1.out.next b1, hS, HX.out.2.trans (b1.mono HX.out.2.size), HX.out.2.size⟩
  clear hr hb hv hv' LA HA b1 hS HX hR1
  go_wp2_with fail
  refine (off_entries w1.heap.size w.heap.size _ (okE L) x _ H1.out.2.1 H1.out.1 (by simp) H1.out.2.2.2 (okE_asc L) (by have := okE_len L; omega)).mono ?_
  rintro e w2 ⟨rfl, v2, hS2, hR2, hz2, hb2⟩
  obtain ⟨a2, n2, c2, hV⟩ : ∃ a2 n2 c2, v2 = .slice a2 n2 c2 := by obtain ⟨a2, c2, h, -⟩ := hR2.slice; exact ⟨a2, _, c2, h⟩
  subst hV
  have HF : Hid (RowE w.heap.size (.slice a2 n2 c2) (offE (okE L) x) w2 ∧ Below w.heap.size w w2) := ⟨hR2, H1.out.2.2.1.trans (hb2.mono H1.out.2.2.2)⟩
  clear hR2 hb2 H1 x1
  go_wp2_with fail
  go_ret2
  exact ⟨_, rfl, HF.out.1, HF.out.2⟩

end Go.Proofs.Ytobblnlefhkanaa
