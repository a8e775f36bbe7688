/- The contract of spec.IndexPut, over the seat's translation. -/
import Derived.Test.YtobblnlefhkanaaIxR1
namespace Go.Proofs.Ytobblnlefhkanaa
open Go.RowKit

theorem ins_fit {L : List AEnt} {x : AEnt} (hf : ∀ c ∈ L, c.fit) (hx : x.fit) : ∀ c ∈ insE L x, c.fit := fun c hc => by
  unfold insE at hc
  rcases List.mem_append.1 hc with h | h
  · exact hf c (List.mem_of_mem_take h)
  · rcases List.mem_cons.1 h with h | h
    · rw [h]; exact hx
    · exact hf c (List.mem_of_mem_drop h)

set_option maxRecDepth 100000 in
set_option maxHeartbeats 2000000 in
theorem spec_put (a : Option Addr) (cap : Nat) (L : List AEnt) (x : AEnt) (w : World) (hL : EntsAt w a L) (h0 : a = none → cap = 0) (hc : L.length ≤ cap) (hf : ∀ c ∈ L, c.fit) (hx : x.fit) (hm : L.length ≤ 1048576) :
    Calls Try.prog 22 #[.slice a L.length cap, .agg #[.int .i64 x.k, .int .i64 x.n, .string x.s, .int .i64 x.id]] w
      fun e w' => ∃ v, e = .returned (.tuple #[v, .bool (putOk L x)]) ∧ OwnE w.heap.size v (putL L x) w' ∧ Below w.heap.size w w' := by
  have hm' : L.length ≤ maxLen := by unfold maxLen; omega
  have bA : Below w.heap.size w (w.alloc (.cells #[.int .i64 x.k, .int .i64 x.n, .string x.s, .int .i64 x.id] 38)) := (Below.refl _ _).alloc (Nat.le_refl _) _
  have nB := Box.start w [.int .i64 x.k, .int .i64 x.n, .string x.s, .int .i64 x.id] 38
  cases hI : indexOk L
  · have hP : putOk L x = false := by rw [putOk, hI]; rfl
    have hQ : putL L x = [] := by rw [putL, hP, if_neg (by decide), okE, hI]; rfl
    rw [hP, hQ]
    have hLA := hL.keep bA
    have HB : Hid (Below w.heap.size w (w.alloc (.cells #[.int .i64 x.k, .int .i64 x.n, .string x.s, .int .i64 x.id] 38))) := bA
    clear bA hL nB hP hQ
    go_enter Try.func22, Try.ntmps22
    go_wp2_with fail
    refine (spec_index _ _ _ _ hLA hf hm').mono ?_
    rintro e w1 ⟨rfl, hb⟩
    rw [hI]
    have hB : Hid (Below w.heap.size w w1) := HB.out.trans (hb.mono (by simp))
    clear hb hLA HB
    have hM := OwnE.made w.heap.size w1 hB.out.size
    go_wp2_with fail
    go_ret2
    exact ⟨_, rfl, hM, hB.out.alloc hB.out.size _⟩
  have hOk : Hid (indexOk L = true) := hI
  have hLA : Hid (EntsAt _ a L) := hL.keep bA
  have HB : Hid (Below w.heap.size w (w.alloc (.cells #[.int .i64 x.k, .int .i64 x.n, .string x.s, .int .i64 x.id] 38)) ∧ Box w.heap.size [.int .i64 x.k, .int .i64 x.n, .string x.s, .int .i64 x.id] (w.alloc (.cells #[.int .i64 x.k, .int .i64 x.n, .string x.s, .int .i64 x.id] 38))) := ⟨bA, nB⟩
  clear bA hL nB
  go_enter Try.func22, Try.ntmps22
  go_wp2_with fail
  refine (spec_index _ _ _ _ hLA.out hf hm').mono ?_
  rintro e w1 ⟨rfl, hb⟩
  rw [hI]
  have hB1 : Hid (Below w.heap.size w w1) := HB.out.1.trans (hb.mono (by simp))
  have hL1 : Hid (EntsAt w1 a L) := hLA.out.keep hb
  have hX := (HB.out.2.next hb).four
  clear hb hLA HB
  go_wp2_with fail
  refine (l8_put a cap L x _ hL1.out h0 hc hm).mono ?_
  rintro e w2 ⟨v, rfl, hv, hb⟩
  obtain ⟨a2, c2, hV, -, hE2⟩ := hv.slice
  subst hV
  have hB2 : Hid (Below w.heap.size w w2) := hB1.out.trans (hb.mono hB1.out.size)
  have hL2 : Hid (EntsAt w2 a L) := hL1.out.keep hb
  have hO2 : Hid (OwnE w.heap.size (.slice a2 (insE L x).length c2) (insE L x) w2) := hv.mono hB1.out.size
  clear hb hB1 hL1 hX hv
  go_wp2_with fail
  refine (spec_index a2 c2 (insE L x) _ hE2 (ins_fit hf hx) (by rw [ins_len]; unfold maxLen; omega)).mono ?_
  rintro e w3 ⟨rfl, hb⟩
  have hB3 : Hid (Below w.heap.size w w3) := hB2.out.trans (hb.mono hB2.out.size)
  have hL3 : Hid (EntsAt w3 a L) := hL2.out.keep hb
  have hO3 : Hid (OwnE w.heap.size (.slice a2 (insE L x).length c2) (insE L x) w3) := hO2.out.next hb
  have hP : Hid (indexOk (insE L x) = putOk L x) := by
    show indexOk (insE L x) = putOk L x
    rw [ins_ok hOk.out, putOk, hOk.out, Bool.true_and]
  clear hb hB2 hL2 hO2 hE2 hI
  rw [hP.out]
  cases hT : putOk L x
  · have hQ : Hid (putL L x = L) := by show putL L x = L; rw [putL, hT, if_neg (by decide), okE, hOk.out]; rfl
    clear hO3
    go_wp2_with (at_builtin; refine append_ents rfl _ _ rfl w.heap.size _ [] rfl (OwnE.made w.heap.size w3 hB3.out.size) a _ cap L rfl rfl (hL3.out.keep ((Below.refl _ _).alloc (Nat.le_refl _) _)) h0 (by simp; omega) (by have := hB3.out.size; simp; omega) ?_; intro a4 n4 c4 w4 ho hg hn hc')
    have hn' : n4 = L.length := by simpa using hn
    subst hn'
    have hB4 : Hid (Below w.heap.size w w4) := (hB3.out.alloc hB3.out.size _).trans hg
    have ho4 : Hid (OwnE w.heap.size (.slice a4 L.length c4) L w4) := ho
    clear ho hg
    go_ret2
    exact ⟨.slice a4 L.length c4, by rw [hT]; rfl, by rw [hQ.out]; exact ho4.out, hB4.out⟩
  · have hQ : Hid (putL L x = insE L x) := by show putL L x = insE L x; rw [putL, hT, if_pos rfl]
    go_wp2_with fail
    go_ret2
    exact ⟨.slice a2 (insE L x).length c2, by rw [hT]; rfl, by rw [hQ.out]; exact hO3.out, hB3.out⟩

end Go.Proofs.Ytobblnlefhkanaa
