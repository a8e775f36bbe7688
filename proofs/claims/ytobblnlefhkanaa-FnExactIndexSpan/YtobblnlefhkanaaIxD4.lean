/- The contract of impl.IndexOff, over the seat's translation. -/
import Derived.Test.YtobblnlefhkanaaIxD3
namespace Go.Proofs.Ytobblnlefhkanaa
open Go.RowKit

theorem asc_of {L : List AEnt} (h : indexOk L = true) : Asc L := by
  simp only [indexOk, Bool.and_eq_true] at h
  exact (ascB_iff L).1 h.2.2
theorem asc_nil : Asc [] := fun i c d hc => by simp at hc
/-- The list that is made: that of the entries, if they are right. -/
def okE (L : List AEnt) : List AEnt := if indexOk L then L else []
theorem okE_asc (L : List AEnt) : Asc (okE L) := by
  unfold okE
  cases h : indexOk L
  · exact asc_nil
  · exact asc_of h
theorem okE_len (L : List AEnt) : (okE L).length ≤ 16 := by
  unfold okE
  cases h : indexOk L
  · exact Nat.zero_le _
  · simp only [indexOk, Bool.and_eq_true, decide_eq_true_eq] at h
    exact h.1
theorem off_nil (x : AEnt) : offE [] x = [] := by unfold offE thereE isThere; simp
theorem there_nil (x : AEnt) : thereE [] x = false := by unfold thereE isThere; simp
theorem off_okE (L : List AEnt) (x : AEnt) : offE (okE L) x = if indexOk L then offE L x else [] := by
  unfold okE
  cases indexOk L
  · exact off_nil x
  · rfl
theorem there_okE (L : List AEnt) (x : AEnt) : thereE (okE L) x = (indexOk L && thereE L x) := by
  unfold okE
  cases indexOk L
  · exact there_nil x
  · rfl

set_option maxRecDepth 100000 in
set_option maxHeartbeats 2000000 in
theorem impl_off (a : Option Addr) (cap : Nat) (L : List AEnt) (x : AEnt) (w : World) (hL : EntsAt w a L) (h0 : a = none → cap = 0) (hf : ∀ c ∈ L, c.fit) (hm : L.length ≤ 1048576) :
    Calls Try.prog 19 #[.slice a L.length cap, .agg #[.int .i64 x.k, .int .i64 x.n, .string x.s, .int .i64 x.id]] w
      fun e w' => ∃ v, e = .returned (.tuple #[v, .bool (indexOk L && thereE L x)]) ∧ RowE w.heap.size v (if indexOk L then offE L x else []) w' ∧ Below w.heap.size w w' := by
  have hm' : L.length ≤ maxLen := by unfold maxLen; omega
  rw [← off_okE, ← there_okE]
  have bA : Below w.heap.size w (w.alloc (.cells #[.int .i64 x.k, .int .i64 x.n, .string x.s, .int .i64 x.id] 38)) := (Below.refl _ _).alloc (Nat.le_refl _) _
  have LA : Hid (EntsAt (w.alloc (.cells #[.int .i64 x.k, .int .i64 x.n, .string x.s, .int .i64 x.id] 38)) a L) := hL.keep bA
  have hX := Box.start w [.int .i64 x.k, .int .i64 x.n, .string x.s, .int .i64 x.id] 38
  have HA : Hid (Box w.heap.size [.int .i64 x.k, .int .i64 x.n, .string x.s, .int .i64 x.id] (w.alloc (.cells #[.int .i64 x.k, .int .i64 x.n, .string x.s, .int .i64 x.id] 38)) ∧ Below w.heap.size w (w.alloc (.cells #[.int .i64 x.k, .int .i64 x.n, .string x.s, .int .i64 x.id] 38))) := ⟨hX, bA⟩
  clear bA hL hX
  go_enter Try.func19, Try.ntmps19
  go_wp2_with fail
  refine (entries_of a cap L _ LA.out h0 hf hm').mono ?_
  rintro e w1 ⟨v, rfl, hv, hb⟩
  have hv' : OwnE w.heap.size v (okE L) w1 := hv.mono (by simp)
  have HX : Hid (Box w.heap.size [.int .i64 x.k, .int .i64 x.n, .string x.s, .int .i64 x.id] w1 ∧ Below w.heap.size w w1) := ⟨HA.out.1.next hb, HA.out.2.trans (hb.mono (by simp))⟩
  obtain ⟨r, hr⟩ : ∃ r, r = indexOk L := ⟨_, rfl⟩
  rw [← hr]
  obtain ⟨a1, n1, c1, hV⟩ : ∃ a1 n1 c1, v = .slice a1 n1 c1 := by obtain ⟨a1, c1, h, -, -⟩ := hv.slice; exact ⟨a1, _, c1, h⟩
  subst hV
  have hR1 : Hid (RowE w.heap.size (.slice a1 n1 c1) (okE L) w1) := hv'.row
  have b1 : Below w1.heap.size w1 (w1.alloc (.cells #[.slice a1 n1 c1, .func (.func 50) #[] #[]] 55)) := (Below.refl _ _).alloc (Nat.le_refl _) _
  have x1 := (HX.out.1.next b1).four
  have hS := sbox_box w1 (.slice a1 n1 c1) (.func (.func 50) #[] #[]) 55
  have H1 : Hid (RowE w.heap.size (.slice a1 n1 c1) (okE L) (w1.alloc (.cells #[.slice a1 n1 c1, .func (.func 50) #[] #[]] 55)) ∧ SBox w1.heap.size (.slice a1 n1 c1) (.func (.func 50) #[] #[]) (w1.alloc (.cells #[.slice a1 n1 c1, .func (.func 50) #[] #[]] 55)) ∧ Below w.heap.size w (w1.alloc (.cells #[.slice a1 n1 c1, .func (.func 50) #[] #[]] 55)) ∧ w.heap.size ≤ w1.heap.size) :=
    ⟨hR1.out.next b1, hS, HX.out.2.trans (b1.mono HX.out.2.size), HX.out.2.size⟩
  clear hr hb hv hv' LA HA b1 hS HX hR1
  go_wp2_with fail
  refine (off_entries w1.heap.size w.heap.size _ (okE L) x _ H1.out.2.1 H1.out.1 (by simp) H1.out.2.2.2 (okE_asc L) (by have := okE_len L; omega)).mono ?_
  rintro e w2 ⟨rfl, v2, hS2, hR2, hz2, hb2⟩
  obtain ⟨a2, n2, c2, hV⟩ : ∃ a2 n2 c2, v2 = .slice a2 n2 c2 := by obtain ⟨a2, c2, h, -⟩ := hR2.slice; exact ⟨a2, _, c2, h⟩
  subst hV
  have HF : Hid (RowE w.heap.size (.slice a2 n2 c2) (offE (okE L) x) w2 ∧ Below w.heap.size w w2) := ⟨hR2, H1.out.2.2.1.trans (hb2.mono H1.out.2.2.2)⟩
  clear hR2 hb2 H1 x1
  go_wp2_with fail
  go_ret2
  exact ⟨_, rfl, HF.out.1, HF.out.2⟩

end Go.Proofs.Ytobblnlefhkanaa
