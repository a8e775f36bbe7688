/- The contract of slices.Insert of one entry; of (*impl.sorted).put, over the seat's translation. -/
import Derived.Test.YtobblnlefhkanaaG11
import Derived.Test.YtobblnlefhkanaaG12
import Derived.Deep.RegionWith
namespace Go.Proofs.Ytobblnlefhkanaa
open Go.RowKit

theorem insert_entries (a : Option Addr) (cap vb i : Nat) (M : List AEnt) (x : AEnt) (w : World) (base : Nat) (hO : OwnE base (.slice a M.length cap) M w) (hi : i ≤ M.length) (hl : M.length ≤ 1048576) (hbs : base ≤ w.heap.size) (hx : OneE vb x w) (hgv : ∀ g, a = some ⟨g, 0, none⟩ → g < vb) :
    Calls Try.prog 56 #[.slice a M.length cap, .int .i64 i, .slice (some ⟨vb, 0, none⟩) 1 1] w
      fun e w' => ∃ v, e = .returned v ∧ RowE base v (M.take i ++ x :: M.drop i) w' ∧ OnlyE a w w' := by
  by_cases he : i = M.length
  · subst he
    exact insert_end a cap vb M x w base hO hl hbs hx
  · have hlt : i < M.length := by omega
    rcases hO.form with ⟨h, hM⟩ | ⟨g, c, h, -⟩
    · subst hM; simp at hlt
    · cases h
      by_cases hr : M.length + 1 ≤ cap
      · exact insert_room g cap vb i M x w base hO hlt hr hl hbs hx (hgv g rfl)
      · exact insert_grow g cap vb i M x w base hO hlt (by omega) hl hbs hx

/-- x put in. -/
def insE (M : List AEnt) (x : AEnt) : List AEnt := M.take (posE M x) ++ x :: M.drop (posE M x)
def putE (M : List AEnt) (x : AEnt) : List AEnt := if thereE M x then M else insE M x

theorem OneE.new (W : World) (x : AEnt) : OneE W.heap.size x (W.alloc (.cells #[.int .i64 x.k, .int .i64 x.n, .string x.s, .int .i64 x.id] 38)) := by
  show (W.heap.push _)[W.heap.size]? = _
  simp

theorem RowE.put {base B : Nat} {v f u : Value} {a : Option Addr} {n c : Nat} {L : List AEnt} {W : World} (h : RowE base v L W) (hS : SBox B (.slice a n c) f W) (hL : L ≠ []) : RowE base v L (W.setCell ⟨B, 0, none⟩ u) := by
  rcases h with ⟨_, h⟩ | ⟨b, cap, hv, h1, h2, h3, h4, h5⟩
  · exact absurd h hL
  · have hne : ¬ b = B := fun e => by
      subst e
      rcases h4 with h | ⟨b', o', e, _, hr⟩
      · exact hL h
      · cases e
        cases L with
        | nil => exact hL rfl
        | cons d L =>
          have := hr 0 d rfl 0 _ rfl
          have h6 := hS.1
          rw [show (0 + 0 * 4 + 0 : Nat) = 0 from rfl, h6] at this
          cases this
    refine Or.inr ⟨b, cap, hv, h1, by simpa [World.setCell] using h2, h3, ?_, fun j hj => ?_⟩
    · rcases h4 with h | ⟨b', o', e, hlt, hr⟩
      · exact Or.inl h
      · cases e
        exact Or.inr ⟨b, 0, rfl, by simpa [World.setCell] using hlt, fun i c hc j v hv => by rw [cell_set hne]; exact hr i c hc j v hv⟩
    · rw [cell_set hne, frozen_set hne]; exact h5 j hj

theorem sbox_turn {B G : Nat} {v f : Value} {W W' : World} (h : SBox B v f W) (ht : Turn G W W') (hB : B < W.heap.size) (hne : B ≠ G) : SBox B v f W' := by
  have hc := fun o => ht.cell hB hne o
  have hf := fun o => ht.frozen hB hne o
  unfold SBox
  simp only [hc, hf]
  exact h

set_option maxRecDepth 100000 in
set_option maxHeartbeats 2000000 in
theorem put_entries (B base : Nat) (v : Value) (M : List AEnt) (x : AEnt) (w : World) (hS : SBox B v (.func (.func 50) #[] #[]) w) (hR : OwnE base v M w) (hB : B < w.heap.size) (hbB : base ≤ B) (hgB : ∀ a n c g, v = .slice a n c → a = some ⟨g, 0, none⟩ → g < B) (hA : Asc M) (hm : M.length ≤ 1000000) :
    Calls Try.prog 42 #[.pointer (some ⟨B, 0, none⟩), .agg #[.int .i64 x.k, .int .i64 x.n, .string x.s, .int .i64 x.id]] w
      fun e w' => e = .returned (.bool (!(thereE M x))) ∧ ∃ v', SBox B v' (.func (.func 50) #[] #[]) w' ∧ RowE base v' (putE M x) w' ∧ B < w'.heap.size ∧ Below base w w' := by
  obtain ⟨a, cap, hv, h0, hE⟩ := hR.slice
  subst hv
  have bA : Below w.heap.size w (w.alloc (.cells #[.int .i64 x.k, .int .i64 x.n, .string x.s, .int .i64 x.id] 38)) := (Below.refl _ _).alloc (Nat.le_refl _) _
  have LA : Hid (Lst B a cap M (w.alloc (.cells #[.int .i64 x.k, .int .i64 x.n, .string x.s, .int .i64 x.id] 38))) := lst_next ⟨hS, hE, hB⟩ bA
  have hX := Box.start w [.int .i64 x.k, .int .i64 x.n, .string x.s, .int .i64 x.id] 38
  have HA : Hid (OwnE base (.slice a M.length cap) M (w.alloc (.cells #[.int .i64 x.k, .int .i64 x.n, .string x.s, .int .i64 x.id] 38)) ∧ Below w.heap.size w (w.alloc (.cells #[.int .i64 x.k, .int .i64 x.n, .string x.s, .int .i64 x.id] 38)) ∧ Box w.heap.size [.int .i64 x.k, .int .i64 x.n, .string x.s, .int .i64 x.id] (w.alloc (.cells #[.int .i64 x.k, .int .i64 x.n, .string x.s, .int .i64 x.id] 38))) := ⟨hR.next bA, bA, hX⟩
  have x0 := hX.four
  clear bA hS hR hE hX
  go_enter Try.func42, Try.ntmps42
  go_wp2_with fail
  refine (place_of B a cap M x _ LA.out hA (by omega)).mono ?_
  rintro e w1 ⟨rfl, hb⟩
  have L1 : Hid (Lst B a cap M w1) := lst_next LA.out hb
  have R1 : Hid (OwnE base (.slice a M.length cap) M w1 ∧ Below w.heap.size w w1 ∧ Box w.heap.size [.int .i64 x.k, .int .i64 x.n, .string x.s, .int .i64 x.id] w1) := ⟨HA.out.1.next hb, HA.out.2.1.trans (hb.mono (by simp)), HA.out.2.2.next hb⟩
  clear hb LA HA x0
  cases hT : thereE M x
  rotate_left
  · have hO : Hid (putE M x = M) := by show putE M x = M; rw [putE, hT]; rfl
    go_wp2_with fail
    go_ret
    exact ⟨ret_bool (by rw [hT]; rfl), _, L1.out.1, by rw [hO.out]; exact R1.out.1.row, L1.out.2.2, R1.out.2.1.mono (by omega)⟩
  · have hO : Hid (putE M x = M.take (posE M x) ++ x :: M.drop (posE M x)) := by show putE M x = _; rw [putE, hT]; rfl
    have hpl : posE M x ≤ M.length := (isAt_pos hA x).1
    have s1 := L1.out.1
    have x1 := R1.out.2.2.four
    have b1 : Below w1.heap.size w1 (w1.drew.alloc (.cells #[.int .i64 x.k, .int .i64 x.n, .string x.s, .int .i64 x.id] 38)) := ((Below.refl _ _).drew).alloc (Nat.le_refl _) _
    have s2 := sbox_next L1.out.1 L1.out.2.2 b1
    have s3 : SBox B (.slice a M.length cap) (.func (.func 50) #[] #[]) (w1.alloc (.cells #[.int .i64 x.k, .int .i64 x.n, .string x.s, .int .i64 x.id] 38)) := s2
    go_wp2_with fail
    obtain ⟨G, hG, hGB, hbG⟩ : ∃ G, (∀ g, a = some ⟨g, 0, none⟩ → g = G) ∧ B ≠ G ∧ base ≤ G := by
      rcases R1.out.1.form with ⟨h, _⟩ | ⟨g, c, h, h1, _⟩
      · have ha := (Value.slice.inj h).1
        exact ⟨w.heap.size, (fun g h => by rw [ha] at h; cases h), by omega, by omega⟩
      · have ha := (Value.slice.inj h).1
        have := hgB _ _ _ g rfl ha
        exact ⟨g, (fun g' h => by rw [ha] at h; cases h; rfl), by omega, h1⟩
    have hgv : ∀ g, a = some ⟨g, 0, none⟩ → g < w1.heap.size := fun g h => by
      have := hgB _ _ _ g rfl h
      have := L1.out.2.2
      omega
    have hO2 : Hid (OwnE base (.slice a M.length cap) M (w1.alloc (.cells #[.int .i64 x.k, .int .i64 x.n, .string x.s, .int .i64 x.id] 38)).drew) := R1.out.1.next (((Below.refl _ _).alloc (Nat.le_refl _) _).drew)
    have hbs : base ≤ (w1.alloc (.cells #[.int .i64 x.k, .int .i64 x.n, .string x.s, .int .i64 x.id] 38)).drew.heap.size := by
      have := L1.out.2.2
      show base ≤ (w1.alloc _).heap.size
      rw [size_alloc]; omega
    have hSd : Hid (SBox B (.slice a M.length cap) (.func (.func 50) #[] #[]) (w1.alloc (.cells #[.int .i64 x.k, .int .i64 x.n, .string x.s, .int .i64 x.id] 38)).drew ∧ B < (w1.alloc (.cells #[.int .i64 x.k, .int .i64 x.n, .string x.s, .int .i64 x.id] 38)).drew.heap.size) := ⟨s2, by
      have := L1.out.2.2
      show B < (w1.alloc _).heap.size
      rw [size_alloc]; omega⟩
    first
      | (go_region_with (go_at_call 56; refine (insert_entries a cap w1.heap.size (posE M x) M x _ base hO2.out hpl (by omega) hbs (OneE.new w1 x) hgv).mono ?_; rintro e wI ⟨vI, rfl, hRI, hTI⟩; obtain ⟨aI, nI, cI, hvI⟩ : ∃ aI nI cI, vI = .slice aI nI cI := (by obtain ⟨a, c, h, -⟩ := hRI.slice; exact ⟨a, _, c, h⟩); subst hvI; have hTI' := hTI G hG; have sI := sbox_turn hSd.out.1 hTI' hSd.out.2 hGB; clear hTI))
      | fail
    all_goals
      have HF : Hid (SBox B (.slice aI nI cI) (.func (.func 50) #[] #[]) (wI.setCell ⟨B, 0, none⟩ (.slice aI nI cI)) ∧ RowE base (.slice aI nI cI) (putE M x) (wI.setCell ⟨B, 0, none⟩ (.slice aI nI cI)) ∧ B < (wI.setCell ⟨B, 0, none⟩ (.slice aI nI cI)).heap.size ∧ Below base w (wI.setCell ⟨B, 0, none⟩ (.slice aI nI cI))) := by
        refine ⟨sbox_one sI, by rw [hO.out]; exact hRI.put sI (by simp), ?_, Below.setCell ?_ hbB _⟩
        · have := Nat.lt_of_lt_of_le hSd.out.2 hTI'.size
          simpa [World.setCell] using this
        · exact (R1.out.2.1.mono (by omega : base ≤ w.heap.size)).trans (((Below.refl base w1).alloc (by have := L1.out.2.2; omega) _).drew.trans (hTI'.below hbG hbs))
      clear hRI hTI' sI s1 s2 s3 hSd hO2
      go_wp2_with fail
      go_ret
      exact ⟨ret_bool (by rw [hT]; rfl), _, HF.out⟩

end Go.Proofs.Ytobblnlefhkanaa

/- An entry put in: when it is right. -/
namespace Go.Proofs.Ytobblnlefhkanaa
open Go.RowKit

theorem ins_get (M : List AEnt) (x : AEnt) (j : Nat) (hp : posE M x ≤ M.length) : (insE M x)[j]? = if j < posE M x then M[j]? else if j = posE M x then some x else M[j - 1]? := by
  unfold insE
  have hl : (M.take (posE M x)).length = posE M x := by rw [List.length_take, Nat.min_eq_left hp]
  by_cases h1 : j < posE M x
  · rw [if_pos h1, List.getElem?_append_left (by omega), List.getElem?_take, if_pos h1]
  · rw [if_neg h1, List.getElem?_append_right (by omega), hl]
    by_cases h2 : j = posE M x
    · rw [if_pos h2, h2, Nat.sub_self]; rfl
    · rw [if_neg h2, show j - posE M x = (j - posE M x - 1) + 1 by omega, List.getElem?_cons_succ, List.getElem?_drop]
      congr 1
      omega

theorem ins_asc {M : List AEnt} (hA : Asc M) (x : AEnt) : ascB (insE M x) = !(thereE M x) := by
  obtain ⟨hp, hlo, hhi⟩ := isAt_pos hA x
  cases hT : thereE M x
  · refine (ascB_iff _).2 fun i c d hc hd => ?_
    rw [ins_get M x _ hp] at hc hd
    by_cases h1 : i + 1 < posE M x
    · rw [if_pos (by omega)] at hc
      rw [if_pos h1] at hd
      exact hA i c d hc hd
    · rw [if_neg h1] at hd
      by_cases h2 : i + 1 = posE M x
      · rw [if_pos (by omega)] at hc
        rw [if_pos h2] at hd
        cases hd
        exact hlo i c (by omega) hc
      · rw [if_neg h2] at hd
        rw [if_neg (by omega)] at hc
        by_cases h3 : i = posE M x
        · rw [if_pos h3] at hc
          cases hc
          rw [show i + 1 - 1 = posE M x by omega] at hd
          cases hl : lessE x d
          · have he := lessE_tri x d hl (hhi _ d (Nat.le_refl _) hd)
            rw [← he] at hd
            rw [(thereE_iff x).2 hd] at hT
            cases hT
          · rfl
        · rw [if_neg h3] at hc
          rw [show i + 1 - 1 = i - 1 + 1 by omega] at hd
          exact hA (i - 1) c d hc hd
  · have hx := (thereE_iff x).1 hT
    cases hb : ascB (insE M x)
    · rfl
    · have h := (ascB_iff _).1 hb (posE M x) x x (by rw [ins_get M x _ hp, if_neg (by omega), if_pos rfl]) (by rw [ins_get M x _ hp, if_neg (by omega), if_neg (by omega)]; exact hx)
      rw [lessE_irr] at h
      cases h

theorem ins_len (M : List AEnt) (x : AEnt) : (insE M x).length = M.length + 1 := by
  unfold insE
  have h := congrArg List.length (List.take_append_drop (posE M x) M)
  simp only [List.length_append, List.length_cons] at *
  omega
theorem ins_all (M : List AEnt) (x : AEnt) : (insE M x).all AEnt.ok = (x.ok && M.all AEnt.ok) := by
  unfold insE
  rw [List.all_append, List.all_cons]
  have h := congrArg (fun l => l.all AEnt.ok) (List.take_append_drop (posE M x) M)
  simp only [List.all_append] at h
  rw [← h]
  cases (M.take (posE M x)).all AEnt.ok <;> cases x.ok <;> rfl

theorem ins_ok {M : List AEnt} (h : indexOk M = true) (x : AEnt) : indexOk (insE M x) = (x.ok && (decide (M.length < 16) && !(thereE M x))) := by
  have hA := asc_of h
  simp only [indexOk, Bool.and_eq_true, decide_eq_true_eq] at h
  unfold indexOk
  rw [ins_asc hA, ins_all, ins_len, h.2.1, Bool.and_true]
  have : decide (M.length + 1 ≤ 16) = decide (M.length < 16) := rfl
  rw [this]
  cases x.ok <;> cases decide (M.length < 16) <;> rfl

/-- What IndexPut answers. -/
def putOk (L : List AEnt) (x : AEnt) : Bool := indexOk L && (x.ok && (decide (L.length < 16) && !(thereE L x)))
def putL (L : List AEnt) (x : AEnt) : List AEnt := if putOk L x then insE L x else okE L
theorem putL_len (L : List AEnt) (x : AEnt) : (putL L x).length ≤ 17 := by
  unfold putL
  cases h : putOk L x
  · have := okE_len L
    simp; omega
  · simp only [putOk, Bool.and_eq_true, decide_eq_true_eq] at h
    rw [if_pos rfl, ins_len]
    omega

end Go.Proofs.Ytobblnlefhkanaa
