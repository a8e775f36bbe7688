/- Contracts of impl's idOk, howWord, kindWord, setOk, allOk at values told and at columns, and setsOk, over the seat's translation. -/
import Derived.Test.YtacindondkcaiaaGreatAcM
import Derived.Test.YtacindondkcaiaaGreatColC2
namespace Go.Proofs.YtacindondkcaiaaGreat
open Go.RowKit

theorem id_ok (n : Int) (w : World) : Calls Tryz.prog 87 #[.int .i64 n] w fun e w' => e = .returned (.bool (idOk n)) ∧ w' = w := by
  go_enter Tryz.func87, Tryz.ntmps87
  go_wp2
  all_goals
    go_ret
    refine ⟨ret_bool ?_, rfl⟩
    rw [Bool.eq_iff_iff]
    simp only [idOk, Bool.and_eq_true, decide_eq_true_eq, Bool.false_eq_true, false_iff]
    omega

def howS (k : Int) : ByteArray := if k = 1 then ⟨#[115, 116, 111, 112]⟩ else if k = 2 then ⟨#[103, 111, 110, 101]⟩ else if k = 3 then ⟨#[110, 111, 110, 101]⟩ else ⟨#[]⟩
def kindS (k : Int) : ByteArray := if k = 1 then ⟨#[110, 117, 109]⟩ else if k = 2 then ⟨#[116, 101, 120, 116]⟩ else ⟨#[]⟩
theorem how_word (k : Int) (w : World) : Calls Tryz.prog 75 #[.int .i64 k] w fun e w' => e = .returned (.string (howS k)) ∧ w' = w := by
  go_enter Tryz.func75, Tryz.ntmps75
  go_wp2
  all_goals
    go_ret
    refine ⟨?_, rfl⟩
    simp_all [howS]
theorem kind_word (k : Int) (w : World) : Calls Tryz.prog 109 #[.int .i64 k] w fun e w' => e = .returned (.string (kindS k)) ∧ w' = w := by
  go_enter Tryz.func109, Tryz.ntmps109
  go_wp2
  all_goals
    go_ret
    refine ⟨?_, rfl⟩
    simp_all [kindS]
theorem how_some (k : Int) : ((howS k).toList != []) = howOk k := by
  unfold howS howOk
  by_cases h1 : k = 1
  · subst h1; simp [ByteArray.toList_eq]
  by_cases h2 : k = 2
  · subst h2; simp [ByteArray.toList_eq]
  by_cases h3 : k = 3
  · subst h3; simp [ByteArray.toList_eq]
  simp [h1, h2, h3]
theorem kind_some (k : Int) : ((kindS k).toList != []) = kindOk k := by
  unfold kindS kindOk
  by_cases h1 : k = 1
  · subst h1; simp [ByteArray.toList_eq]
  by_cases h2 : k = 2
  · subst h2; simp [ByteArray.toList_eq]
  simp [h1, h2]

theorem empty_not (l : List UInt8) : l.isEmpty = !(l != []) := by cases l <;> rfl
theorem how_none (k : Int) : (howS k).toList.isEmpty = !howOk k := by rw [empty_not, how_some]
theorem kind_none (k : Int) : (kindS k).toList.isEmpty = !kindOk k := by rw [empty_not, kind_some]

/-- The box at B holds a value told in W, and W lies over w. -/
abbrev Held4 (w : World) (B : Nat) (nm : ByteArray) (k n : Int) (s : ByteArray) (W : World) : Prop :=
  W.cell? ⟨B, 0, none⟩ = some (.string nm) ∧ W.cell? ⟨B, 1, none⟩ = some (.int .i64 k) ∧ W.cell? ⟨B, 2, none⟩ = some (.int .i64 n) ∧ W.cell? ⟨B, 3, none⟩ = some (.string s) ∧ B + 1 ≤ W.heap.size ∧ Below B w W
theorem held4_next {w : World} {B : Nat} {nm : ByteArray} {k n : Int} {s : ByteArray} {W W' : World} (h : Held4 w B nm k n s W) (hb : Below W.heap.size W W') : Held4 w B nm k n s W' := by
  obtain ⟨a, b, c, d, g, i⟩ := h
  have hc := (bcell hb).1
  have hz := hb.size
  exact ⟨by rw [hc _ _ (by omega)]; exact a, by rw [hc _ _ (by omega)]; exact b, by rw [hc _ _ (by omega)]; exact c, by rw [hc _ _ (by omega)]; exact d, by omega, i.trans (hb.mono (by omega))⟩
theorem held4_box (w : World) (nm : ByteArray) (k n : Int) (s : ByteArray) (t : TypeId) : Held4 w w.heap.size nm k n s (w.alloc (.cells #[.string nm, .int .i64 k, .int .i64 n, .string s] t)) := by
  refine ⟨?_, ?_, ?_, ?_, ?_, (Below.refl _ _).alloc (Nat.le_refl _) _⟩
  all_goals go_simp

set_option maxHeartbeats 1000000 in
theorem set_ok (c : ASet) (w : World) (hf : c.fit) :
    Calls Tryz.prog 82 #[.agg #[.string c.nm, .int .i64 c.k, .int .i64 c.n, .string c.s]] w fun e w' => e = .returned (.bool c.ok) ∧ Below w.heap.size w w' := by
  obtain ⟨hf1, hf2⟩ := hf
  go_enter Tryz.func82, Tryz.ntmps82
  go_wp2_with (first
    | (go_at_call 64; refine (name_ok _ _ hf1).mono ?_; rintro e w' ⟨rfl, hb⟩; have hN := held4_next (held4_box _ _ _ _ _ _) hb; clear hb)
    | (go_at_call 69; refine (impl_ok _ _ _ _ hf2).mono ?_; rintro e w' ⟨rfl, hb⟩; have hM := held4_next hN hb; clear hb))
  all_goals
    go_ret
    first
      | (have hE := hM
         refine ⟨?_, hE.2.2.2.2.2⟩
         simp_all [ASet.ok]
         done)
      | (have hE := hN
         refine ⟨?_, hE.2.2.2.2.2⟩
         simp_all [ASet.ok])

theorem all_next {α : Type} (p : α → Bool) (L : List α) (k : Nat) (c : α) (hc : L[k]? = some c) (a : (L.take k).all p = true) (b : p c = true) : (L.take (k + 1)).all p = true := by
  obtain ⟨hk, rfl⟩ := List.getElem?_eq_some_iff.1 hc
  rw [List.take_succ_eq_append_getElem hk, List.all_append, a]
  simp [b]
theorem all_bad {α : Type} (p : α → Bool) (L : List α) (k : Nat) (c : α) (hc : L[k]? = some c) (b : p c = false) : L.all p = false := by
  rw [List.all_eq_false]
  exact ⟨c, List.mem_of_getElem? hc, by simp [b]⟩

set_option maxRecDepth 100000 in
set_option maxHeartbeats 1000000 in
theorem all_sets (a : Option Addr) (cap : Nat) (L : List ASet) (w : World) (ha : SetsAt w a L) (hf : ∀ c ∈ L, c.fit) (hm : L.length ≤ maxLen) :
    Calls Tryz.prog 81 #[.slice a L.length cap, .func (.func 82) #[] #[]] w fun e w' => e = .returned (.bool (L.all ASet.ok)) ∧ Below w.heap.size w w' := by
  unfold maxLen at hm
  go_enter Tryz.func81, Tryz.ntmps81
  go_wp2_with fail
  go_loopw [9] (fun i wr => ∃ k : Nat, k ≤ L.length ∧ i = .int .i64 k ∧ Hid ((L.take k).all ASet.ok = true ∧ Below w.heap.size w wr)) (fun i _ => L.length - (intOf i).toNat)
  case atStart => exact ⟨0, Nat.zero_le _, rfl, ⟨rfl, Below.refl _ _⟩⟩
  case round =>
    obtain ⟨k, hk, rfl, hH⟩ := hrel
    by_cases hlt : k < L.length
    · obtain ⟨b, o, hab, hbl, hr⟩ := (ha.keep hH.out.2).at hlt
      have hc := List.getElem?_eq_getElem hlt
      have hft := hf _ (List.getElem_mem hlt)
      revert hr hc hft
      generalize L[k] = c
      intro hr hc hft
      have hix : ∀ wx, (Instr.indexAt 36 (.slice a L.length cap) (.int .i64 k)).run Tryz.prog wx = .ok (.pointer (some ⟨b, o + k * 4, none⟩)) wx := fun wx => by
        rw [hab]; exact run_ixk 4 _ _ _ _ _ _ _ wx hlt Tryz.underlying36 (Tryz.sizeOf76 wx)
      have hT := cellsS_of hr
      have H1 : Hid (Below wr.heap.size wr (wr.alloc (.cells #[.string c.nm, .int .i64 c.k, .int .i64 c.n, .string c.s] 76))) := (Below.refl _ _).alloc (Nat.le_refl _) _
      have hC : Hid (L[k]? = some c ∧ c.fit) := ⟨hc, hft⟩
      clear hab hr ha hbl hc hft hf
      go_wp2_with fail
      refine (set_ok c _ hC.out.2).mono ?_
      rintro e w' ⟨rfl, hq⟩
      have hP : Hid ((L.take k).all ASet.ok = true ∧ Below w.heap.size w w') := ⟨hH.out.1, hH.out.2.trans ((H1.out.trans (hq.mono H1.out.size)).mono hH.out.2.size)⟩
      clear hT hq H1 hH
      cases hs : c.ok
      · go_wp2_with fail
        go_ret
        exact ⟨ret_bool (all_bad _ L k c hC.out.1 hs).symm, hP.out.2⟩
      · go_wp2_with fail
        go_roundw
        case rel => exact ⟨k + 1, by omega, by go_num, ⟨all_next _ L k c hC.out.1 hP.out.1 hs, hP.out.2⟩⟩
        case measure => simp [intOf]; omega
    · have hkl : k = L.length := by omega
      subst hkl
      go_wp2_with fail
      go_ret
      refine ⟨ret_bool ?_, hH.out.2⟩
      have h := hH.out.1
      rw [List.take_length] at h
      exact h.symm

set_option maxRecDepth 100000 in
set_option maxHeartbeats 1000000 in
theorem all_cols (a : Option Addr) (cap : Nat) (L : List ACol) (w : World) (ha : ColsAt w a L) (hf : ∀ c ∈ L, c.fit) (hm : L.length ≤ maxLen) :
    Calls Tryz.prog 65 #[.slice a L.length cap, .func (.func 66) #[] #[]] w fun e w' => e = .returned (.bool (L.all ACol.ok)) ∧ Below w.heap.size w w' := by
  unfold maxLen at hm
  go_enter Tryz.func65, Tryz.ntmps65
  go_wp2_with fail
  go_loopw [9] (fun i wr => ∃ k : Nat, k ≤ L.length ∧ i = .int .i64 k ∧ Hid ((L.take k).all ACol.ok = true ∧ Below w.heap.size w wr)) (fun i _ => L.length - (intOf i).toNat)
  case atStart => exact ⟨0, Nat.zero_le _, rfl, ⟨rfl, Below.refl _ _⟩⟩
  case round =>
    obtain ⟨k, hk, rfl, hH⟩ := hrel
    by_cases hlt : k < L.length
    · obtain ⟨b, o, hab, hbl, hr⟩ := (ha.keep hH.out.2).at hlt
      have hc := List.getElem?_eq_getElem hlt
      have hft := hf _ (List.getElem_mem hlt)
      revert hr hc hft
      generalize L[k] = c
      intro hr hc hft
      have hix : ∀ wx, (Instr.indexAt 37 (.slice a L.length cap) (.int .i64 k)).run Tryz.prog wx = .ok (.pointer (some ⟨b, o + k * 7, none⟩)) wx := fun wx => by
        rw [hab]; exact run_ix _ _ _ _ _ _ _ wx hlt Tryz.underlying37 (Tryz.sizeOf40 wx)
      have hT := cells7_of hr
      have H1 : Hid (Below wr.heap.size wr (wr.alloc (.cells #[.string c.nm, .int .i64 c.kd, .bool c.nd, .bool c.oc, .int .i64 c.k, .int .i64 c.n, .string c.s] 40))) := (Below.refl _ _).alloc (Nat.le_refl _) _
      have hC : Hid (L[k]? = some c ∧ c.fit) := ⟨hc, hft⟩
      clear hab hr ha hbl hc hft hf
      go_wp2_with fail
      refine (impl_col c.nm c.kd c.nd c.oc c.k c.n c.s _ hC.out.2.1 hC.out.2.2).mono ?_
      rintro e w' ⟨rfl, hq⟩
      have hP : Hid ((L.take k).all ACol.ok = true ∧ Below w.heap.size w w') := ⟨hH.out.1, hH.out.2.trans ((H1.out.trans (hq.mono H1.out.size)).mono hH.out.2.size)⟩
      clear hT hq H1 hH
      cases hs : colOk c.nm c.kd c.oc c.k c.n c.s
      · go_wp2_with fail
        go_ret
        exact ⟨ret_bool (all_bad ACol.ok L k c hC.out.1 hs).symm, hP.out.2⟩
      · go_wp2_with fail
        go_roundw
        case rel => exact ⟨k + 1, by omega, by go_num, ⟨all_next ACol.ok L k c hC.out.1 hP.out.1 hs, hP.out.2⟩⟩
        case measure => simp [intOf]; omega
    · have hkl : k = L.length := by omega
      subst hkl
      go_wp2_with fail
      go_ret
      refine ⟨ret_bool ?_, hH.out.2⟩
      have h := hH.out.1
      rw [List.take_length] at h
      exact h.symm

set_option maxRecDepth 100000 in
set_option maxHeartbeats 1000000 in
theorem sets_ok (a : Option Addr) (cap : Nat) (L : List ASet) (w : World) (ha : SetsAt w a L) (hf : ∀ c ∈ L, c.fit) (hm : L.length ≤ maxLen) :
    Calls Tryz.prog 80 #[.slice a L.length cap] w fun e w' => e = .returned (.bool (decide (L.length ≤ 5) && L.all ASet.ok)) ∧ Below w.heap.size w w' := by
  by_cases h5 : (L.length : Int) ≤ 5
  · have h5' : L.length ≤ 5 := by omega
    go_enter Tryz.func80, Tryz.ntmps80
    go_wp2_with fail
    refine (all_sets _ _ _ _ ha hf hm).mono ?_
    rintro e w' ⟨rfl, hq⟩
    go_wp2_with fail
    go_ret
    exact ⟨ret_bool (by simp [h5']), hq⟩
  · have h5' : ¬ L.length ≤ 5 := by omega
    go_enter Tryz.func80, Tryz.ntmps80
    go_wp2_with fail
    go_ret
    exact ⟨ret_bool (by simp), Below.refl _ _⟩

end Go.Proofs.YtacindondkcaiaaGreat
