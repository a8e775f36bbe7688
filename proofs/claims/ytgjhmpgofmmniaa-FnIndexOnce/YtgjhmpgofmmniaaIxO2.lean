/- The contract of impl.IndexOnce, over the seat's translation. -/
import Derived.Test.YtgjhmpgofmmniaaIxO1
import Derived.Test.YtgjhmpgofmmniaaIxF2
namespace Go.Proofs.Ytgjhmpgofmmniaa
open Go.RowKit

/-- The list of IndexOnce lies in its box, and its entries behind it. -/
structure OB (w : World) (p : Nat) (a : Option Addr) (c : Nat) (f : Value) (M : List AEnt) (W : World) : Prop where
  box : SBox p (.slice a M.length c) f W
  ents : EntsAt W a M
  lt : p < W.heap.size
  bel : Below w.heap.size w W
theorem OB.next {w : World} {p : Nat} {a : Option Addr} {c : Nat} {f : Value} {M : List AEnt} {W W' : World} (h : OB w p a c f M W) (hb : Below W.heap.size W W') : OB w p a c f M W' :=
  ⟨sbox_next h.box h.lt hb, h.ents.keep hb, Nat.lt_of_lt_of_le h.lt hb.size, h.bel.trans (hb.mono h.bel.size)⟩

theorem step_once {M : List AEnt} {k j : Nat} {c d : AEnt} (h : ∀ i c d, i + 1 < k → M[i]? = some c → M[i + 1]? = some d → twice c d = false) (hj : 0 < k → j + 1 = k) (hc : M[j]? = some c) (hd : M[k]? = some d) (ht : 0 < k → twice c d = false) :
    ∀ i c d, i + 1 < k + 1 → M[i]? = some c → M[i + 1]? = some d → twice c d = false := fun i x y hi hx hy => by
  by_cases hik : i + 1 = k
  · have hi' : i = j := by have := hj (by omega); omega
    rw [hi', hc] at hx
    rw [hik, hd] at hy
    cases hx; cases hy
    exact ht (by omega)
  · exact h i x y (by omega) hx hy

set_option maxRecDepth 100000 in
set_option maxHeartbeats 2000000 in
theorem impl_once (a : Option Addr) (cap : Nat) (L : List AEnt) (w : World) (hL : EntsAt w a L) (h0 : a = none → cap = 0) (hf : ∀ c ∈ L, c.fit) (hm : L.length ≤ maxLen) :
    Calls Try.prog 9 #[.slice a L.length cap] w fun e w' => e = .returned (.bool (onceOk L)) ∧ Below w.heap.size w w' := by
  have hm' := hm
  unfold maxLen at hm'
  go_enter Try.func9, Try.ntmps9
  go_wp2_with fail
  refine (entries_of _ _ _ _ hL h0 hf hm).mono ?_
  rintro e w1 ⟨v, rfl, hv, hb⟩
  have hB : Hid (Below w.heap.size w w1) := hb
  obtain ⟨M, hM⟩ : ∃ M, M = if indexOk L then L else [] := ⟨_, rfl⟩
  rw [← hM] at hv
  have HM : Hid (M = if indexOk L then L else []) := hM
  have hMl : M.length ≤ 9223372036854775807 := by
    rw [hM]
    by_cases h : indexOk L = true
    · rw [if_pos h]; omega
    · rw [if_neg h]; exact Nat.zero_le _
  clear hM hL
  obtain ⟨a1, c1, rfl, -, hE⟩ := hv.slice
  obtain ⟨r, hr⟩ : ∃ r, r = indexOk L := ⟨_, rfl⟩
  rw [← hr]
  have HR : Hid (r = indexOk L) := hr
  have O1 : OB w w1.heap.size a1 c1 (.func (.func 47) #[] #[]) M (w1.alloc (.cells #[.slice a1 M.length c1, .func (.func 47) #[] #[]] 49)) :=
    ⟨sbox_box _ _ _ _, hE.keep ((Below.refl _ _).alloc (Nat.le_refl _) _), by simp, hB.out.alloc hB.out.size _⟩
  clear hr hb hv
  go_wp2_with fail
  go_loopw [15] (fun i wr => ∃ k : Nat, k ≤ M.length ∧ i = .int .i64 k ∧ Hid ((∀ i c d, i + 1 < k → M[i]? = some c → M[i + 1]? = some d → twice c d = false) ∧ OB w w1.heap.size a1 c1 (.func (.func 47) #[] #[]) M wr)) (fun i _ => M.length - (intOf i).toNat)
  case atStart => exact ⟨0, Nat.zero_le _, rfl, ⟨fun i c d hi => absurd hi (Nat.not_lt_zero _), O1⟩⟩
  case round =>
    obtain ⟨k, hk, rfl, hH⟩ := hrel
    clear O1 hE
    by_cases hlt : k < M.length
    rotate_left
    · have hkl : k = M.length := by omega
      subst hkl
      go_wp2_with fail
      go_ret
      refine ⟨ret_bool ?_, hH.out.2.bel⟩
      have h1 := once_ok hH.out.1
      cases hi : indexOk L
      · simp [HR.out, hi, onceOk]
      · have h2 := HM.out
        rw [hi, if_pos rfl] at h2
        rw [h2] at h1
        simp [HR.out, hi, onceOk, h1]
    obtain ⟨j, hj⟩ : ∃ j, j = k - 1 := ⟨_, rfl⟩
    have hjl : j < M.length := by omega
    obtain ⟨b, o, hab, hbl, hr⟩ := hH.out.2.ents.at hlt
    obtain ⟨b', o', hab', -, hr'⟩ := hH.out.2.ents.at hjl
    rw [hab] at hab'
    simp only [Option.some.injEq, Addr.mk.injEq] at hab'
    obtain ⟨rfl, rfl, _⟩ := hab'
    have hc1 := List.getElem?_eq_getElem hjl
    have hc2 := List.getElem?_eq_getElem hlt
    revert hr hr' hc1 hc2
    generalize M[j] = c
    generalize M[k] = d
    intro hr hr' hc1 hc2
    have hix : ∀ wx, (Instr.indexAt 23 (.slice a1 M.length c1) (.int .i64 k)).run Try.prog wx = .ok (.pointer (some ⟨b, o + k * 4, none⟩)) wx := fun wx => by
      rw [hab]; exact run_ix4 _ _ _ _ _ _ _ wx hlt Try.underlying23 (Try.sizeOf29 wx)
    have hiy : 0 < k → ∀ wx, (Instr.indexAt 23 (.slice a1 M.length c1) (.int .i64 ((k : Int) - 1))).run Try.prog wx = .ok (.pointer (some ⟨b, o + j * 4, none⟩)) wx := fun hk0 wx => by
      rw [hab, show ((k : Int) - 1) = ((j : Nat) : Int) by omega]; exact run_ix4 _ _ _ _ _ _ _ wx hjl Try.underlying23 (Try.sizeOf29 wx)
    have hld := cells4_of hr
    have bA : Below wr.heap.size wr (wr.alloc (.cells #[.int .i64 d.k, .int .i64 d.n, .string d.s, .int .i64 d.id] 29)) := (Below.refl _ _).alloc (Nat.le_refl _) _
    have OA : Hid (OB w w1.heap.size a1 c1 (.func (.func 47) #[] #[]) M (wr.alloc (.cells #[.int .i64 d.k, .int .i64 d.n, .string d.s, .int .i64 d.id] 29))) := hH.out.2.next bA
    have hldA := cells4_next (cells4_of hr') hbl bA
    have sA := OA.out.box
    have hC : Hid (M[j]? = some c ∧ M[k]? = some d) := ⟨hc1, hc2⟩
    have hJ : Hid (0 < k → j + 1 = k) := fun _ => by omega
    have hqe := eql_val d c
    clear hab hr hr' hbl hc1 hc2 bA hj hjl
    have nB := (Box.start wr [.int .i64 d.k, .int .i64 d.n, .string d.s, .int .i64 d.id] 29).four
    by_cases h3 : 0 < k
    rotate_left
    · have hg3 : decide (0 < k) = false := decide_eq_false (by omega)
      have H3 : Hid (¬ 0 < k) := h3
      clear hiy h3
      go_wp2_with fail
      go_quiet (fail)
      have OZ : Hid (OB w w1.heap.size a1 c1 (.func (.func 47) #[] #[]) M ((wr.alloc (.cells #[.int .i64 d.k, .int .i64 d.n, .string d.s, .int .i64 d.id] 29)).drewN nq)) := OA.out.next (quiet_below _ _ _)
      clear sA hldA hqe nB
      go_wp2_with fail
      go_roundw
      case rel => exact ⟨k + 1, by omega, by go_num, ⟨step_once hH.out.1 hJ.out hC.out.1 hC.out.2 (fun h => absurd h H3.out), OZ.out⟩⟩
      case measure => simp [intOf]; omega
    have hg3 : decide (0 < k) = true := decide_eq_true (by omega)
    have hiz := hiy h3
    have H3 : Hid (0 < k) := h3
    clear hiy h3
    cases hv : eqV d c
    · have HT : Hid (twice c d = false) := by show twice c d = false; simp [twice, hv]
      go_wp2_with fail
      go_quiet (fail)
      have OZ : Hid (OB w w1.heap.size a1 c1 (.func (.func 47) #[] #[]) M ((wr.alloc (.cells #[.int .i64 d.k, .int .i64 d.n, .string d.s, .int .i64 d.id] 29)).drewN nq)) := OA.out.next (quiet_below _ _ _)
      clear sA hldA hqe nB
      go_wp2_with fail
      go_roundw
      case rel => exact ⟨k + 1, by omega, by go_num, ⟨step_once hH.out.1 hJ.out hC.out.1 hC.out.2 (fun _ => HT.out), OZ.out⟩⟩
      case measure => simp [intOf]; omega
    have hkd : ((d.k == 0) = true ∧ (d.k != 0) = false) ∨ ((d.k == 0) = false ∧ (d.k != 0) = true) := by by_cases h : d.k = 0 <;> simp [h]
    rcases hkd with ⟨hk0, hk1⟩ | ⟨hk0, hk1⟩
    · have HT : Hid (twice c d = false) := by show twice c d = false; simp [twice, hk0]
      go_wp2_with fail
      go_quiet (fail)
      have OZ : Hid (OB w w1.heap.size a1 c1 (.func (.func 47) #[] #[]) M ((wr.alloc (.cells #[.int .i64 d.k, .int .i64 d.n, .string d.s, .int .i64 d.id] 29)).drewN nq)) := OA.out.next (quiet_below _ _ _)
      clear sA hldA hqe nB
      go_wp2_with fail
      go_roundw
      case rel => exact ⟨k + 1, by omega, by go_num, ⟨step_once hH.out.1 hJ.out hC.out.1 hC.out.2 (fun _ => HT.out), OZ.out⟩⟩
      case measure => simp [intOf]; omega
    · have HT : Hid (twice c d = true) := by show twice c d = true; simp [twice, hv, hk0]
      go_wp2_with fail
      go_quiet (fail)
      have OZ : Hid (OB w w1.heap.size a1 c1 (.func (.func 47) #[] #[]) M ((wr.alloc (.cells #[.int .i64 d.k, .int .i64 d.n, .string d.s, .int .i64 d.id] 29)).drewN nq)) := OA.out.next (quiet_below _ _ _)
      clear sA hldA hqe nB
      go_wp2_with fail
      go_ret
      refine ⟨ret_bool ?_, OZ.out.bel⟩
      have hj := hJ.out H3.out
      have hd := hC.out.2
      rw [← hj] at hd
      have hb := once_bad hC.out.1 hd HT.out
      cases hi : indexOk L
      · simp [onceOk, hi]
      · have h2 := HM.out
        rw [hi, if_pos rfl] at h2
        rw [h2] at hb
        simp [onceOk, hb]

end Go.Proofs.Ytgjhmpgofmmniaa
