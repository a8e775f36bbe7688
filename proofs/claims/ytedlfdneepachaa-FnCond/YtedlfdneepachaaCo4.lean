/- Contracts of the test that impl.condTest gives, of impl.CondOk and impl.CondHas, over the seat's translation. -/
import Derived.Test.YtedlfdneepachaaCo3
namespace Go.Proofs.Ytedlfdneepachaa
open Go.RowKit

theorem TestAt.keep {W W' : World} {a : Option Addr} {cap : Nat} {L : List ACol} {how k n : Int} {s : ByteArray} {p S H A B : Nat} (h : TestAt W a cap L how k n s p S H A B) (hb : Below W.heap.size W W') : TestAt W' a cap L how k n s p S H A B := by
  have hc := (bcell hb).1
  have hz := hb.size
  have hq := h.sz
  exact ⟨by rw [hc _ _ hq.1]; exact h.s0, by rw [hc _ _ hq.2.1]; exact h.h0, by rw [hc _ _ hq.2.2]; exact h.a0, h.has.keep hb, by omega⟩

/-- The test and the values lie in W, and W lies over w. -/
def TR (w : World) (a b : Option Addr) (cap : Nat) (L : List ACol) (V : List AVal) (how k n : Int) (s : ByteArray) (p S H A B : Nat) (W : World) : Prop := TestAt W a cap L how k n s p S H A B ∧ ValsAt W b V ∧ Below w.heap.size w W
theorem tr_next {w : World} {a b : Option Addr} {cap : Nat} {L : List ACol} {V : List AVal} {how k n : Int} {s : ByteArray} {p S H A B : Nat} {W W' : World} (h : TR w a b cap L V how k n s p S H A B W) (hb : Below W.heap.size W W') : TR w a b cap L V how k n s p S H A B W' := ⟨h.1.keep hb, h.2.1.keep hb, h.2.2.trans (hb.mono h.2.2.size)⟩

def rowHas (L : List ACol) (V : List AVal) (p : Nat) (how k n : Int) (s : ByteArray) : Bool := decide (V.length = L.length) && match V[p]? with | some v => hasV how k n s v.k v.n v.s | none => false

set_option maxRecDepth 100000 in
set_option maxHeartbeats 4000000 in
theorem test_row (a b : Option Addr) (cap cap' : Nat) (L : List ACol) (how k n : Int) (s : ByteArray) (V : List AVal) (p S H A B : Nat) (w : World) (hh : how = 1 ∨ how = 2 ∨ how = 3) (hT0 : TestAt w a cap L how k n s p S H A B) (hV : ValsAt w b V) (hp : p < L.length) (_hm : L.length ≤ maxLen) (_hm2 : V.length ≤ maxLen) :
    Calls Try.prog 32 #[.slice b V.length cap', .pointer (some ⟨S, 0, none⟩), .pointer (some ⟨H, 0, none⟩), .pointer (some ⟨A, 0, none⟩)] w fun e w' => e = .returned (.bool (rowHas L V p how k n s)) ∧ Below w.heap.size w w' := by
  have hT : TR w a b cap L V how k n s p S H A B w := ⟨hT0, hV, Below.refl _ _⟩
  clear hT0 hV
  have inh : Nonempty (Over (TR w a b cap L V how k n s p S H A B)) := ⟨⟨_, hT⟩⟩
  have g0 : ∀ q : Over (TR w a b cap L V how k n s p S H A B), q.W.cell? ⟨S, 0, none⟩ = some (.slice a L.length cap) := fun q => q.ok.1.s0
  have g1 : ∀ q : Over (TR w a b cap L V how k n s p S H A B), q.W.cell? ⟨H, 0, none⟩ = some (hasFn how B) := fun q => q.ok.1.h0
  have g2 : ∀ q : Over (TR w a b cap L V how k n s p S H A B), q.W.cell? ⟨A, 0, none⟩ = some (.int .i64 p) := fun q => q.ok.1.a0
  by_cases hlen : V.length = L.length
  rotate_left
  · have hl3 : ((V.length : Int) == (L.length : Int)) = false := by simp; omega
    go_enter Try.func32, Try.ntmps32
    go_wp2_with fail
    refine wp_region_over (S := TR w a b cap L V how k n s p S H A B) (by kernel_rfl) (by kernel_rfl) (tr_next hT (Below.refl _ _).drew) ?_
    repeat (go_big_quiet_step (fail))
    refine wpQuiet_nil ?_
    rintro wq ⟨pp, hp⟩
    have hZ := pp.ok
    rw [← hp] at hZ
    clear hp pp g0 g1 g2 inh hT
    go_wp2_with fail
    go_ret
    exact ⟨ret_bool (by simp [rowHas, hlen]), hZ.2.2⟩
  · have hlt2 : p < V.length := by omega
    obtain ⟨b1, o1, hab1, -, -⟩ := hT.2.1.at hlt2
    have hix : ∀ wx, (Instr.indexAt 28 (.slice b L.length cap') (.int .i64 p)).run Try.prog wx = .ok (.pointer (some ⟨b1, o1 + p * 3, none⟩)) wx := fun wx => by
      rw [hab1]; exact run_ix3 _ _ _ _ _ _ _ wx hp Try.underlying28 (Try.sizeOf25 wx)
    have g3 : ∀ q : Over (TR w a b cap L V how k n s p S H A B), Cells3 q.W b1 (o1 + p * 3) V[p] := fun q => by
      obtain ⟨b2, o2, hab2, _, hr⟩ := q.ok.2.1.at hlt2
      rw [hab1] at hab2
      simp only [Option.some.injEq, Addr.mk.injEq] at hab2
      obtain ⟨rfl, rfl, _⟩ := hab2
      exact cells3_of hr
    have hG : Hid (V[p]? = some V[p]) := List.getElem?_eq_getElem hlt2
    revert g3 hG
    generalize V[p] = v
    intro g3 hG
    have hE : Hid (V.length = L.length) := hlen
    rw [hlen]
    clear hlen hab1 hlt2
    rcases hh with rfl | rfl | rfl
    · have hcon : ∀ q : Over (TR w a b cap L V 1 k n s p S H A B), Calls Try.prog 40 #[.agg #[.int .i64 v.k, .int .i64 v.n, .string v.s], .pointer (some ⟨B, 0, none⟩)] q.W fun e w' => e = .returned (.bool (hasV 1 k n s v.k v.n v.s)) ∧ Below q.W.heap.size q.W w' := fun q => by
        have := test_same B k n s v.k v.n v.s q.W q.ok.1.has.lt q.ok.1.has.c0 q.ok.1.has.c1 q.ok.1.has.c2
        simpa [hasV] using this
      rw [hasFn, if_pos rfl] at g1
      go_enter Try.func32, Try.ntmps32
      go_wp2_with fail
      refine wp_region_over (S := TR w a b cap L V 1 k n s p S H A B) (by kernel_rfl) (by kernel_rfl) (tr_next hT (Below.refl _ _).drew) ?_
      repeat (go_big_quiet_step (exact over_call (hcon _) (fun _ h => tr_next (Over.ok _) h)))
      refine wpQuiet_nil ?_
      rintro wq ⟨pp, hp⟩
      have hZ := pp.ok
      rw [← hp] at hZ
      clear hp pp g0 g1 g2 inh hT g3 hcon
      go_wp2_with fail
      go_ret
      exact ⟨ret_bool (by simp [rowHas, hG.out, hE.out]), hZ.2.2⟩

    · have hcon : ∀ q : Over (TR w a b cap L V 2 k n s p S H A B), Calls Try.prog 49 #[.agg #[.int .i64 v.k, .int .i64 v.n, .string v.s], .pointer (some ⟨B + 1, 0, none⟩)] q.W fun e w' => e = .returned (.bool (hasV 2 k n s v.k v.n v.s)) ∧ Below q.W.heap.size q.W w' := fun q => not_less B k n s v.k v.n v.s q.W q.ok.1.has
      rw [hasFn, if_neg (by decide)] at g1
      go_enter Try.func32, Try.ntmps32
      go_wp2_with fail
      refine wp_region_over (S := TR w a b cap L V 2 k n s p S H A B) (by kernel_rfl) (by kernel_rfl) (tr_next hT (Below.refl _ _).drew) ?_
      repeat (go_big_quiet_step (exact over_call (hcon _) (fun _ h => tr_next (Over.ok _) h)))
      refine wpQuiet_nil ?_
      rintro wq ⟨pp, hp⟩
      have hZ := pp.ok
      rw [← hp] at hZ
      clear hp pp g0 g1 g2 inh hT g3 hcon
      go_wp2_with fail
      go_ret
      exact ⟨ret_bool (by simp [rowHas, hG.out, hE.out]), hZ.2.2⟩

    · have hcon : ∀ q : Over (TR w a b cap L V 3 k n s p S H A B), Calls Try.prog 49 #[.agg #[.int .i64 v.k, .int .i64 v.n, .string v.s], .pointer (some ⟨B + 1, 0, none⟩)] q.W fun e w' => e = .returned (.bool (hasV 3 k n s v.k v.n v.s)) ∧ Below q.W.heap.size q.W w' := fun q => not_more B k n s v.k v.n v.s q.W q.ok.1.has
      rw [hasFn, if_neg (by decide)] at g1
      go_enter Try.func32, Try.ntmps32
      go_wp2_with fail
      refine wp_region_over (S := TR w a b cap L V 3 k n s p S H A B) (by kernel_rfl) (by kernel_rfl) (tr_next hT (Below.refl _ _).drew) ?_
      repeat (go_big_quiet_step (exact over_call (hcon _) (fun _ h => tr_next (Over.ok _) h)))
      refine wpQuiet_nil ?_
      rintro wq ⟨pp, hp⟩
      have hZ := pp.ok
      rw [← hp] at hZ
      clear hp pp g0 g1 g2 inh hT g3 hcon
      go_wp2_with fail
      go_ret
      exact ⟨ret_bool (by simp [rowHas, hG.out, hE.out]), hZ.2.2⟩

set_option maxRecDepth 100000 in
set_option maxHeartbeats 2000000 in
theorem impl_cond (a : Option Addr) (cap : Nat) (L : List ACol) (nm : ByteArray) (how k n : Int) (s : ByteArray) (w : World) (hL : ColsAt w a L) (hf : ∀ c ∈ L, c.fit) (hm : L.length ≤ maxLen) (hks : s.size ≤ maxLen) (hnm : nm.size ≤ maxLen) :
    Calls Try.prog 7 #[.slice a L.length cap, .agg #[.string nm, .int .i64 how, .int .i64 k, .int .i64 n, .string s]] w fun e w' => e = .returned (.bool (condOk L nm how k n s)) ∧ Below w.heap.size w w' := by
  go_enter Try.func7, Try.ntmps7
  go_wp2_with fail
  refine (cond_test _ _ _ _ _ _ _ _ _ (hL.keep ((Below.refl _ _).alloc (Nat.le_refl _) _)) hf hm hks hnm).mono ?_
  rintro e w1 ⟨hb, h⟩
  have hB : Hid (Below w.heap.size w w1) := ((Below.refl _ _).alloc (Nat.le_refl _) _).trans (hb.mono (by simp))
  clear hb
  rcases h with ⟨hc, rfl⟩ | ⟨hc, p, S, H, A, B, -, -, -, -, rfl⟩
  all_goals
    go_wp2_with fail
    go_ret
    exact ⟨ret_bool hc.symm, hB.out⟩

set_option maxRecDepth 100000 in
set_option maxHeartbeats 2000000 in
theorem impl_has (a b : Option Addr) (cap cap' : Nat) (L : List ACol) (nm : ByteArray) (how k n : Int) (s : ByteArray) (V : List AVal) (w : World) (hL : ColsAt w a L) (hV : ValsAt w b V) (hf : ∀ c ∈ L, c.fit) (hm : L.length ≤ maxLen) (hm2 : V.length ≤ maxLen) (hks : s.size ≤ maxLen) (hnm : nm.size ≤ maxLen) :
    Calls Try.prog 5 #[.slice a L.length cap, .agg #[.string nm, .int .i64 how, .int .i64 k, .int .i64 n, .string s], .slice b V.length cap'] w fun e w' => e = .returned (.bool (condHas L nm how k n s V)) ∧ Below w.heap.size w w' := by
  go_enter Try.func5, Try.ntmps5
  go_wp2_with fail
  refine (cond_test _ _ _ _ _ _ _ _ _ (hL.keep ((Below.refl _ _).alloc (Nat.le_refl _) _)) hf hm hks hnm).mono ?_
  rintro e w1 ⟨hb, h⟩
  have hB : Hid (Below w.heap.size w w1) := ((Below.refl _ _).alloc (Nat.le_refl _) _).trans (hb.mono (by simp))
  have hV1 : Hid (ValsAt w1 b V) := hV.keep hB.out
  clear hb hL hV
  rcases h with ⟨hc, rfl⟩ | ⟨hc, p, S, H, A, B, hpe, hlt, hh, hT, rfl⟩
  · go_wp2_with fail
    go_ret
    exact ⟨ret_bool (by simp [condHas, hc]), hB.out⟩
  · have hT1 : Hid (TestAt w1 a cap L how k n s p S H A B) := hT
    have hh1 : Hid (how = 1 ∨ how = 2 ∨ how = 3) := hh
    clear hT hh
    go_wp2_with fail
    refine (test_row _ _ _ _ _ _ _ _ _ _ _ _ _ _ _ _ hh1.out hT1.out hV1.out hlt hm hm2).mono ?_
    rintro e w2 ⟨rfl, hb⟩
    go_wp2_with fail
    go_ret
    exact ⟨ret_bool (by rw [condHas, hc, hpe]; simp only [rowHas, Bool.true_and, Int.toNat_natCast]; rfl), hB.out.trans (hb.mono hB.out.size)⟩

end Go.Proofs.Ytedlfdneepachaa
