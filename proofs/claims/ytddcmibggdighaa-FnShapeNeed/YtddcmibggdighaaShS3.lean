/- Contracts of spec.l2At and spec.ShapeOk, over the seat's translation. -/
import Derived.Test.YtddcmibggdighaaShA
namespace Go.Proofs.Ytddcmibggdighaa
open Go.RowKit

def same (a b : ByteArray) : Bool := a.toList == b.toList
/-- The first column of a name, or -1. -/
def placeOf (L : List ACol) (nm : ByteArray) : Int :=
  match L.findIdx? (fun c => same c.nm nm) with
  | some i => i
  | none => -1
def lacks (L : List ACol) (nm : ByteArray) : Bool := L.all fun c => !same c.nm nm

theorem lacks_next (L : List ACol) (nm : ByteArray) (k : Nat) (c : ACol) (h : L[k]? = some c) (a : lacks (L.take k) nm = true) (b : same c.nm nm = false) : lacks (L.take (k + 1)) nm = true := by
  obtain ⟨hk, rfl⟩ := List.getElem?_eq_some_iff.1 h
  unfold lacks at *
  rw [List.take_succ_eq_append_getElem hk, List.all_append, a]
  simp [b]
theorem place_hit (L : List ACol) (nm : ByteArray) (k : Nat) (c : ACol) (h : L[k]? = some c) (a : lacks (L.take k) nm = true) (b : same c.nm nm = true) : placeOf L nm = k := by
  obtain ⟨hk, rfl⟩ := List.getElem?_eq_some_iff.1 h
  have : L.findIdx? (fun c => same c.nm nm) = some k := by
    rw [List.findIdx?_eq_some_iff_getElem]
    refine ⟨hk, b, fun j hj => ?_⟩
    unfold lacks at a
    rw [List.all_eq_true] at a
    have := a L[j] (by rw [List.mem_take_iff_getElem]; exact ⟨j, by omega, rfl⟩)
    simpa using this
  simp [placeOf, this]
theorem place_none (L : List ACol) (nm : ByteArray) (a : lacks L nm = true) : placeOf L nm = -1 := by
  have : L.findIdx? (fun c => same c.nm nm) = none := by
    rw [List.findIdx?_eq_none_iff]
    intro x hx
    unfold lacks at a
    rw [List.all_eq_true] at a
    simpa using a x hx
  simp [placeOf, this]

set_option maxHeartbeats 1000000 in
theorem l2_at (a : Option Addr) (cap : Nat) (L : List ACol) (nm : ByteArray) (w : World) (hL : ColsAt w a L) (hm : L.length ≤ maxLen) :
    Calls Try.prog 23 #[.slice a L.length cap, .string nm] w fun e w' => e = .returned (.int .i64 (placeOf L nm)) ∧ w' = w := by
  unfold maxLen at hm
  go_enter Try.func23, Try.ntmps23
  go_wp2_with fail
  go_loop [5] (fun i => ∃ k : Nat, k ≤ L.length ∧ i = .int .i64 k ∧ Hid (lacks (L.take k) nm = true)) (fun i => L.length - (intOf i).toNat)
  case atStart => exact ⟨0, Nat.zero_le _, rfl, (rfl : lacks (L.take 0) nm = true)⟩
  case round =>
    obtain ⟨k, hk, rfl, hH⟩ := hrel
    by_cases hlt : k < L.length
    · obtain ⟨b, o, hab, hbl, hr⟩ := hL.at hlt
      have hck := List.getElem?_eq_getElem hlt
      revert hr hck
      generalize L[k] = c
      intro hr hck
      have hix : ∀ wx, (Instr.indexAt 23 (.slice a L.length cap) (.int .i64 k)).run Try.prog wx = .ok (.pointer (some ⟨b, o + k * 7, none⟩)) wx := fun wx => by
        rw [hab]; exact run_ix _ _ _ _ _ _ _ wx hlt Try.underlying23 (Try.sizeOf31 wx)
      have hld := (cells7_of hr).1
      have hck' : Hid (L[k]? = some c) := hck
      clear hab hr hL hck
      cases hs : same c.nm nm
      · have hs' : (c.nm.toList == nm.toList) = false := hs
        go_wp2_with fail
        go_round
        case rel => exact ⟨k + 1, by omega, by go_num, lacks_next L nm k c hck'.out hH.out hs⟩
        case measure => simp [intOf]; omega
      · have hs' : (c.nm.toList == nm.toList) = true := hs
        go_wp2_with fail
        go_ret
        refine ⟨?_, rfl⟩
        rw [place_hit L nm k c hck'.out hH.out hs]
        rfl
    · have hkl : k = L.length := by omega
      subst hkl
      go_wp2_with fail
      go_ret
      refine ⟨?_, rfl⟩
      have := hH.out
      rw [List.take_length] at this
      rw [place_none L nm this]
      rfl

/-- The first k columns are right, and each is the first of its name. -/
def upto (L : List ACol) (k : Nat) : Bool := (List.range k).all fun i => match L[i]? with | some c => c.ok && placeOf L c.nm == (i : Int) | none => false
def shapeOk (L : List ACol) : Bool := upto L L.length && (decide (1 ≤ L.length) && decide (L.length ≤ 5))

theorem upto_next (L : List ACol) (k : Nat) (c : ACol) (h : L[k]? = some c) (a : upto L k = true) (b : c.ok = true) (d : placeOf L c.nm = k) : upto L (k + 1) = true := by
  unfold upto at *
  rw [List.range_succ, List.all_append, a]
  simp [h, b, d]
theorem upto_bad (L : List ACol) (k : Nat) (c : ACol) (h : L[k]? = some c) (b : c.ok = false ∨ placeOf L c.nm ≠ k) : shapeOk L = false := by
  have : upto L L.length = false := by
    unfold upto
    rw [List.all_eq_false]
    refine ⟨k, List.mem_range.2 (List.getElem?_eq_some_iff.1 h).1, ?_⟩
    rw [h]
    rcases b with b | b
    · simp [b]
    · simp [b]
  simp [shapeOk, this]

set_option maxHeartbeats 1000000 in
theorem spec_shape (a : Option Addr) (cap : Nat) (L : List ACol) (w : World) (hL : ColsAt w a L) (hf : ∀ c ∈ L, c.fit) (hm : L.length ≤ maxLen) :
    Calls Try.prog 15 #[.slice a L.length cap] w fun e w' => e = .returned (.bool (shapeOk L)) ∧ Below w.heap.size w w' := by
  have hm' := hm
  unfold maxLen at hm'
  go_enter Try.func15, Try.ntmps15
  go_wp2_with fail
  go_loopw [3] (fun i wr => ∃ k : Nat, k ≤ L.length ∧ i = .int .i64 k ∧ Hid (upto L k = true ∧ Below w.heap.size w wr)) (fun i _ => L.length - (intOf i).toNat)
  case atStart => exact ⟨0, Nat.zero_le _, rfl, ⟨(rfl : upto L 0 = true), Below.refl _ _⟩⟩
  case round =>
    obtain ⟨k, hk, rfl, hH⟩ := hrel
    have hL' := hL.keep hH.out.2
    by_cases hlt : k < L.length
    · obtain ⟨b, o, hab, hbl, hr⟩ := hL'.at hlt
      have hck := List.getElem?_eq_getElem hlt
      have hft := hf _ (List.getElem_mem hlt)
      revert hr hck hft
      generalize L[k] = c
      intro hr hck hft
      have hix : ∀ wx, (Instr.indexAt 23 (.slice a L.length cap) (.int .i64 k)).run Try.prog wx = .ok (.pointer (some ⟨b, o + k * 7, none⟩)) wx := fun wx => by
        rw [hab]; exact run_ix _ _ _ _ _ _ _ wx hlt Try.underlying23 (Try.sizeOf31 wx)
      have hld := cells7_of hr
      have hck' : Hid (L[k]? = some c) := hck
      have hHL : Hid (ColsAt wr a L) := hL'
      clear hab hr hL hL' hck
      cases hco : c.ok
      · have hco' : colOk c.nm c.kd c.oc c.k c.n c.s = false := hco
        go_wp2_with (go_at_call 30; refine (spec_col _ _ _ _ _ _ _ _ hft.1 hft.2).mono ?_; rintro e w' ⟨rfl, hq⟩)
        go_ret
        exact ⟨ret_bool (upto_bad L k c hck'.out (Or.inl hco)).symm, hH.out.2.trans (‹Below wr.heap.size wr _›.mono hH.out.2.size)⟩
      · have hco' : colOk c.nm c.kd c.oc c.k c.n c.s = true := hco
        go_wp2_with (first
          | (go_at_call 30; refine (spec_col _ _ _ _ _ _ _ _ hft.1 hft.2).mono ?_; rintro e w' ⟨rfl, hq⟩; have hld2 : w'.cell? ⟨b, o + k * 7, none⟩ = some (.string c.nm) := ((bcell hq).1 _ _ hbl).trans hld.1; have hHL2 : Hid (ColsAt w' a L) := hHL.out.keep hq; have hHB : Hid (Below w.heap.size w w') := hH.out.2.trans (hq.mono hH.out.2.size); clear hq)
          | (go_at_call 23; refine (l2_at _ _ _ _ _ hHL2.out hm).mono ?_; rintro e w'' ⟨rfl, rfl⟩))
        · go_ret
          exact ⟨ret_bool (upto_bad L k c hck'.out (Or.inr (by simp_all))).symm, hHB.out⟩
        · go_roundw
          case rel => exact ⟨k + 1, by omega, by go_num, ⟨upto_next L k c hck'.out hH.out.1 hco (by simp_all), hHB.out⟩⟩
          case measure => simp [intOf]; omega
    · have hkl : k = L.length := by omega
      subst hkl
      go_wp2_with fail
      all_goals
        go_ret
        refine ⟨ret_bool ?_, hH.out.2⟩
        unfold shapeOk
        rw [hH.out.1, Bool.true_and, Bool.eq_iff_iff]
        simp only [Bool.and_eq_true, decide_eq_true_eq, Bool.false_eq_true, false_iff]
        omega

end Go.Proofs.Ytddcmibggdighaa
