/- The contract of impl.IndexPut, over the seat's translation. -/
import Derived.Test.YtobblnlefhkanaaIxQ1
namespace Go.Proofs.Ytobblnlefhkanaa
open Go.RowKit

set_option maxRecDepth 100000 in
set_option maxHeartbeats 2000000 in
theorem impl_put (a : Option Addr) (cap : Nat) (L : List AEnt) (x : AEnt) (w : World) (hL : EntsAt w a L) (h0 : a = none → cap = 0) (hf : ∀ c ∈ L, c.fit) (hx : x.fit) (hm : L.length ≤ 1048576) :
    Calls Try.prog 23 #[.slice a L.length cap, .agg #[.int .i64 x.k, .int .i64 x.n, .string x.s, .int .i64 x.id]] w
      fun e w' => ∃ v, e = .returned (.tuple #[v, .bool (putOk L x)]) ∧ RowE w.heap.size v (putL L x) w' ∧ Below w.heap.size w w' := by
  have hm' : L.length ≤ maxLen := by unfold maxLen; omega
  have bA : Below w.heap.size w (w.alloc (.cells #[.int .i64 x.k, .int .i64 x.n, .string x.s, .int .i64 x.id] 38)) := (Below.refl _ _).alloc (Nat.le_refl _) _
  have LA : Hid (EntsAt (w.alloc (.cells #[.int .i64 x.k, .int .i64 x.n, .string x.s, .int .i64 x.id] 38)) a L) := hL.keep bA
  have hX := Box.start w [.int .i64 x.k, .int .i64 x.n, .string x.s, .int .i64 x.id] 38
  have HA : Hid (Box w.heap.size [.int .i64 x.k, .int .i64 x.n, .string x.s, .int .i64 x.id] (w.alloc (.cells #[.int .i64 x.k, .int .i64 x.n, .string x.s, .int .i64 x.id] 38)) ∧ Below w.heap.size w (w.alloc (.cells #[.int .i64 x.k, .int .i64 x.n, .string x.s, .int .i64 x.id] 38))) := ⟨hX, bA⟩
  clear bA hL hX
  go_enter Try.func23, Try.ntmps23
  go_wp2_with fail
  refine (entries_of a cap L _ LA.out h0 hf hm').mono ?_
  rintro e w1 ⟨v, rfl, hv, hb⟩
  have hv' : OwnE w.heap.size v (okE L) w1 := hv.mono (by simp)
  have HX : Hid (Box w.heap.size [.int .i64 x.k, .int .i64 x.n, .string x.s, .int .i64 x.id] w1 ∧ Below w.heap.size w w1) := ⟨HA.out.1.next hb, HA.out.2.trans (hb.mono (by simp))⟩
  obtain ⟨a1, c1, hV, -⟩ := hv'.slice
  subst hV
  have b1 : Below w1.heap.size w1 (w1.alloc (.cells #[.slice a1 (okE L).length c1, .func (.func 50) #[] #[]] 55)) := (Below.refl _ _).alloc (Nat.le_refl _) _
  have hS := sbox_box w1 (.slice a1 (okE L).length c1) (.func (.func 50) #[] #[]) 55
  have hlt : ∀ a n c g, Value.slice a1 (okE L).length c1 = .slice a n c → a = some ⟨g, 0, none⟩ → g < w1.heap.size := fun a n c g h e => by
    rcases hv'.form with ⟨h', _⟩ | ⟨g', c', h', _, hl, _⟩
    · rw [(Value.slice.inj h).1.symm, (Value.slice.inj h').1] at e; cases e
    · rw [(Value.slice.inj h).1.symm, (Value.slice.inj h').1] at e; cases e; exact hl
  have H1 : Hid ((OwnE w.heap.size (.slice a1 (okE L).length c1) (okE L) (w1.alloc (.cells #[.slice a1 (okE L).length c1, .func (.func 50) #[] #[]] 55)) ∧ SBox w1.heap.size (.slice a1 (okE L).length c1) (.func (.func 50) #[] #[]) (w1.alloc (.cells #[.slice a1 (okE L).length c1, .func (.func 50) #[] #[]] 55)) ∧ Below w.heap.size w (w1.alloc (.cells #[.slice a1 (okE L).length c1, .func (.func 50) #[] #[]] 55)) ∧ w.heap.size ≤ w1.heap.size) ∧ ∀ a n c g, Value.slice a1 (okE L).length c1 = .slice a n c → a = some ⟨g, 0, none⟩ → g < w1.heap.size) :=
    ⟨⟨hv'.next b1, hS, HX.out.2.trans (b1.mono HX.out.2.size), HX.out.2.size⟩, hlt⟩
  have HXA : Hid (Box w.heap.size [.int .i64 x.k, .int .i64 x.n, .string x.s, .int .i64 x.id] (w1.alloc (.cells #[.slice a1 (okE L).length c1, .func (.func 50) #[] #[]] 55))) := HX.out.1.next b1
  have x1 := HXA.out.four
  clear hb hv hv' LA HA b1 hlt
  cases hI : indexOk L
  · have HI : Hid (indexOk L = false) := hI
    go_wp2_with fail
    go_ret2
    have hP : putOk L x = false := by rw [putOk, HI.out]; rfl
    exact ⟨.slice a1 (okE L).length c1, by rw [hP]; rfl, by rw [putL, hP]; exact H1.out.1.1.row, H1.out.1.2.2.1⟩
  have HI : Hid (indexOk L = true) := hI
  have HO : Hid (okE L = L) := by show okE L = L; rw [okE, hI]; rfl
  go_wp2_with fail
  refine (entry_ok x _ hx).mono ?_
  rintro e w2 ⟨rfl, hb⟩
  have H2 : Hid (OwnE w.heap.size (.slice a1 (okE L).length c1) (okE L) w2 ∧ SBox w1.heap.size (.slice a1 (okE L).length c1) (.func (.func 50) #[] #[]) w2 ∧ Below w.heap.size w w2 ∧ w1.heap.size < w2.heap.size) :=
    ⟨H1.out.1.1.next hb, sbox_next H1.out.1.2.1 (by simp) hb, H1.out.1.2.2.1.trans (hb.mono (by have := H1.out.1.2.2.2; rw [size_alloc]; omega)), by have := hb.size; rw [size_alloc] at this; omega⟩
  have x2 := (HXA.out.next hb).four
  have s2 := H2.out.2.1
  clear hb x1 hS
  cases hk : x.ok
  · have HK : Hid (x.ok = false) := hk
    go_wp2_with fail
    go_ret2
    have hP : putOk L x = false := by rw [putOk, HK.out]; simp
    exact ⟨.slice a1 (okE L).length c1, by rw [hP]; rfl, by rw [putL, hP]; exact H2.out.1.row, H2.out.2.2.1⟩
  have HK : Hid (x.ok = true) := hk
  by_cases hl : (okE L).length < 16
  rotate_left
  · have hlb : decide ((okE L).length < 16) = false := decide_eq_false hl
    have hlc : decide (((okE L).length : Int) < 16) = false := decide_eq_false (by omega)
    have HL : Hid (¬ (okE L).length < 16) := hl
    clear hl
    go_wp2_with fail
    go_ret2
    have hP : putOk L x = false := by
      have h := HL.out
      rw [HO.out] at h
      rw [putOk, decide_eq_false h]
      simp
    exact ⟨.slice a1 (okE L).length c1, by rw [hP]; rfl, by rw [putL, hP]; exact H2.out.1.row, H2.out.2.2.1⟩
  have hlb : decide ((okE L).length < 16) = true := decide_eq_true hl
  have hlc : decide (((okE L).length : Int) < 16) = true := decide_eq_true (by omega)
  have HL : Hid ((okE L).length < 16) := hl
  clear hl
  go_wp2_with fail
  refine (put_entries w1.heap.size w.heap.size _ (okE L) x _ H2.out.2.1 H2.out.1 H2.out.2.2.2 H1.out.1.2.2.2 H1.out.2 (okE_asc L) (by have := HL.out; omega)).mono ?_
  rintro e w3 ⟨rfl, v3, hS3, hR3, hz3, hb3⟩
  obtain ⟨a3, n3, c3, hV⟩ : ∃ a3 n3 c3, v3 = .slice a3 n3 c3 := by obtain ⟨a3, c3, h, -⟩ := hR3.slice; exact ⟨a3, _, c3, h⟩
  subst hV
  have HF : Hid (RowE w.heap.size (.slice a3 n3 c3) (putE (okE L) x) w3 ∧ Below w.heap.size w w3) := ⟨hR3, H2.out.2.2.1.trans hb3⟩
  have hP : Hid (putOk L x = !(thereE (okE L) x)) := by
    show putOk L x = _
    have h := HL.out
    rw [HO.out] at h ⊢
    rw [putOk, HI.out, HK.out, decide_eq_true h]
    simp
  have hQ : Hid (putL L x = putE (okE L) x) := by
    show putL L x = _
    rw [putL, hP.out, putE, HO.out]
    cases thereE L x <;> rfl
  clear hR3 hb3 H1 H2 s2 x2 hlb
  go_wp2_with fail
  go_ret2
  exact ⟨.slice a3 n3 c3, by rw [hP.out]; rfl, by rw [hQ.out]; exact HF.out.1, HF.out.2⟩

end Go.Proofs.Ytobblnlefhkanaa
