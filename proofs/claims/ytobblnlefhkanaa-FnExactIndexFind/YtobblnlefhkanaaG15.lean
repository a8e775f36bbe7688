/- The contract of the function that (*impl.sorted).span hands back, over the seat's translation. -/
import Derived.RangeFuncNested
import Derived.RangeFuncBound
import Derived.RangeFuncCalls
import Derived.RangeFuncLeaves
import Derived.WalkKit
import Derived.OwnWalkIn
import Derived.TacticsInMore
import Derived.LoopNIn
import Derived.LoopIn
import Derived.Stop.RegionWithIn
import Derived.Test.YtobblnlefhkanaaG09
import Derived.ControlIn
import Derived.Test.YtobblnlefhkanaaG10
import Derived.Test.YtobblnlefhkanaaIxR1
namespace Go.Proofs.Ytobblnlefhkanaa
open Go.RowKit

attribute [local go_sem] Oper.semAt_some

theorem span_made (B : Nat) (x y : AEnt) (w : World) :
    Calls Try.prog 44 #[.pointer (some ⟨B, 0, none⟩), .agg #[.int .i64 x.k, .int .i64 x.n, .string x.s, .int .i64 x.id], .agg #[.int .i64 y.k, .int .i64 y.n, .string y.s, .int .i64 y.id]] w
      fun e w' => e = .returned (.func (.func 57) #[] #[.pointer (some ⟨w.heap.size, 0, none⟩), .pointer (some ⟨w.heap.size + 1, 0, none⟩), .pointer (some ⟨w.heap.size + 2, 0, none⟩)]) ∧
        w' = ((w.alloc (.cells #[.pointer (some ⟨B, 0, none⟩)] 72)).alloc (.cells #[.int .i64 x.k, .int .i64 x.n, .string x.s, .int .i64 x.id] 38)).alloc (.cells #[.int .i64 y.k, .int .i64 y.n, .string y.s, .int .i64 y.id] 38) := by
  go_enter Try.func44, Try.ntmps44
  go_wp2_with fail
  go_ret
  exact ⟨rfl, rfl⟩

/-- What lay below n has not turned, block q aside. -/
structure But (n q : Nat) (W W' : World) : Prop where
  os : W'.os = W.os
  tape : W'.tape = W.tape
  output : W'.output = W.output
  size : W.heap.size ≤ W'.heap.size
  block : ∀ k, k < n → k ≠ q → W'.heap[k]? = W.heap[k]?
theorem But.refl (n q : Nat) (W : World) : But n q W W := ⟨rfl, rfl, rfl, Nat.le_refl _, fun _ _ _ => rfl⟩
theorem But.trans {n q : Nat} {A B C : World} (h : But n q A B) (k : But n q B C) : But n q A C :=
  ⟨k.os.trans h.os, k.tape.trans h.tape, k.output.trans h.output, Nat.le_trans h.size k.size, fun i hi hq => (k.block i hi hq).trans (h.block i hi hq)⟩
theorem But.of {n q p : Nat} {W W' : World} (h : Below p W W') (hn : n ≤ p) : But n q W W' := ⟨h.os, h.tape, h.output, h.size, fun i hi _ => h.block i (Nat.lt_of_lt_of_le hi hn)⟩
theorem But.cell {n q : Nat} {W W' : World} (h : But n q W W') {b : Nat} (hb : b < n) (hq : b ≠ q) (o : Nat) : W'.cell? ⟨b, o, none⟩ = W.cell? ⟨b, o, none⟩ := World.cell?_of_block (w := W) (a := ⟨b, o, none⟩) (h.block b hb hq)
theorem But.frozen {n q : Nat} {W W' : World} (h : But n q W W') {b : Nat} (hb : b < n) (hq : b ≠ q) (o : Nat) : W'.frozen? ⟨b, o, none⟩ = W.frozen? ⟨b, o, none⟩ := World.frozen?_of_block (w := W) (a := ⟨b, o, none⟩) (h.block b hb hq)

/-- What the function reads, all of it in blocks below n, and none in q: its three boxes from s on; the list's box B; the list. -/
structure SpB (n q s B : Nat) (a : Option Addr) (cap : Nat) (M : List AEnt) (x y : AEnt) (W : World) : Prop where
  le : n ≤ W.heap.size
  s3 : s + 2 < n
  qs : q < s
  bn : B < n
  bq : B ≠ q
  ptr : W.cell? ⟨s, 0, none⟩ = some (.pointer (some ⟨B, 0, none⟩))
  bx : W.rangeAt (s + 1) 0 x.cells
  byy : W.rangeAt (s + 2) 0 y.cells
  box : SBox B (.slice a M.length cap) (.func (.func 50) #[] #[]) W
  ents : M = [] ∨ ∃ b o, a = some ⟨b, o, none⟩ ∧ b < n ∧ b ≠ q ∧ ∀ i c, M[i]? = some c → W.rangeAt b (o + i * 4) c.cells
theorem SpB.but {n q s B : Nat} {a : Option Addr} {cap : Nat} {M : List AEnt} {x y : AEnt} {W W' : World} (h : SpB n q s B a cap M x y W) (k : But n q W W') : SpB n q s B a cap M x y W' := by
  obtain ⟨h0, h1, h2, h3, h4, h5, h6, h7, ⟨h8, h9, h10, h11⟩, h12⟩ := h
  refine ⟨Nat.le_trans h0 k.size, h1, h2, h3, h4, by rw [k.cell (by omega) (by omega)]; exact h5, fun j v hv => ?_, fun j v hv => ?_, ⟨by rw [k.cell h3 h4]; exact h8, by rw [k.cell h3 h4]; exact h9, by rw [k.frozen h3 h4]; exact h10, by rw [k.frozen h3 h4]; exact h11⟩, ?_⟩
  · rw [k.cell (by omega) (by omega)]; exact h6 j v hv
  · rw [k.cell (by omega) (by omega)]; exact h7 j v hv
  · rcases h12 with h | ⟨b, o, e, hb, hq, hr⟩
    · exact Or.inl h
    · exact Or.inr ⟨b, o, e, hb, hq, fun i c hc j v hv => by rw [k.cell hb hq]; exact hr i c hc j v hv⟩
theorem SpB.later {n q s B : Nat} {a : Option Addr} {cap : Nat} {M : List AEnt} {x y : AEnt} {W W' : World} (h : SpB n q s B a cap M x y W) (hb : Below W.heap.size W W') : SpB n q s B a cap M x y W' := h.but (But.of hb h.le)
theorem SpB.at {n q s B : Nat} {a : Option Addr} {cap : Nat} {M : List AEnt} {x y : AEnt} {W : World} (h : SpB n q s B a cap M x y W) : EntsAt W a M := by
  rcases h.ents with h' | ⟨b, o, e, hb, hq, hr⟩
  · exact Or.inl h'
  · exact Or.inr ⟨b, o, e, Nat.lt_of_lt_of_le hb h.le, hr⟩
theorem SpB.lst {n q s B : Nat} {a : Option Addr} {cap : Nat} {M : List AEnt} {x y : AEnt} {W : World} (h : SpB n q s B a cap M x y W) : Lst B a cap M W := ⟨h.box, h.at, Nat.lt_of_lt_of_le h.bn h.le⟩

/-- What it yields. -/
def spanY (M : List AEnt) (x y : AEnt) : List AEnt := (M.drop (posE M x)).takeWhile fun c => decide (cmpE c y ≤ 0)
def encE (c : AEnt) : Array Value := #[.agg #[.int .i64 c.k, .int .i64 c.n, .string c.s, .int .i64 c.id]]

theorem below_grown {W W' : World} (h : Below W.heap.size W W') : W.grownBy W' none := ⟨h.os, h.tape, h.output, h.size, fun k hk _ => h.block k hk⟩
theorem abides_below {B : Nat} {J : List AEnt → World → Prop} (hJ : AbidesFrom B J) {pre : List AEnt} {W W' : World} (h : J pre W) (hb : Below W.heap.size W W') : J pre W' := hJ pre W W' none h (below_grown hb) (fun _ e => by cases e)

theorem tw_ge {p : AEnt → Bool} (D : List AEnt) : ∀ k, k ≤ D.length → (∀ t c, t < k → D[t]? = some c → p c = true) → k ≤ (D.takeWhile p).length := by
  induction D with
  | nil => intro k hk _; simp at hk; omega
  | cons d D ih =>
    intro k hk h
    cases k with
    | zero => exact Nat.zero_le _
    | succ k =>
      have hd := h 0 d (by omega) rfl
      simp only [List.takeWhile_cons, hd, if_true, List.length_cons]
      have := ih k (by simpa using hk) (fun t c ht hc => h (t + 1) c (by omega) (by simpa using hc))
      omega
theorem tw_pre {p : AEnt → Bool} {D : List AEnt} {k : Nat} (hk : k ≤ (D.takeWhile p).length) : D.take k <+: D.takeWhile p := by
  have h := List.prefix_iff_eq_take.1 (List.takeWhile_prefix (l := D) p)
  have h2 : D.take k = (D.takeWhile p).take k := by
    rw [h, List.take_take, Nat.min_eq_left hk]
  rw [h2]
  exact List.take_prefix _ _
theorem tw_stop {p : AEnt → Bool} {D : List AEnt} {k : Nat} (hk : k ≤ D.length) (h1 : ∀ t c, t < k → D[t]? = some c → p c = true) (h2 : ∀ c, D[k]? = some c → p c = false) : D.takeWhile p = D.take k := by
  have h := List.prefix_iff_eq_take.1 (List.takeWhile_prefix (l := D) p)
  rw [h, tw_len D k hk h1 h2]
theorem take_next {D : List AEnt} {k : Nat} {c : AEnt} (h : D[k]? = some c) : D.take k ++ [c] = D.take (k + 1) := by
  obtain ⟨hk, rfl⟩ := List.getElem?_eq_some_iff.1 h
  exact (List.take_succ_eq_append_getElem hk).symm

/-- A round's answer: it goes on, or it says no more. -/
abbrev RdE (n q : Nat) (J Jx : List AEnt → World → Prop) (pre : List AEnt) (W1 : World) (r : Bool) (W' : World) : Prop :=
  (r = true → J pre W' ∧ But n q W1 W') ∧ (r = false → Jx pre W')

/-- What is read ahead of a round. -/
abbrev RgE (n q s B : Nat) (a : Option Addr) (cap : Nat) (M : List AEnt) (x y : AEnt) (J : List AEnt → World → Prop) (pre : List AEnt) (z X : Nat) (c : AEnt) (W : World) : Prop :=
  (SpB n q s B a cap M x y W ∧ J pre W ∧ z ≤ W.heap.size ∧ Box X [.int .i64 c.k, .int .i64 c.n, .string c.s, .int .i64 c.id] W) ∧ W.cell? ⟨s, 0, none⟩ = some (.pointer (some ⟨B, 0, none⟩)) ∧ SBox B (.slice a M.length cap) (.func (.func 50) #[] #[]) W ∧
    (W.cell? ⟨X, 0, none⟩ = some (.int .i64 c.k) ∧ W.cell? ⟨X, 1, none⟩ = some (.int .i64 c.n) ∧ W.cell? ⟨X, 2, none⟩ = some (.string c.s) ∧ W.cell? ⟨X, 3, none⟩ = some (.int .i64 c.id)) ∧
    (W.cell? ⟨s + 2, 0, none⟩ = some (.int .i64 y.k) ∧ W.cell? ⟨s + 2, 1, none⟩ = some (.int .i64 y.n) ∧ W.cell? ⟨s + 2, 2, none⟩ = some (.string y.s) ∧ W.cell? ⟨s + 2, 3, none⟩ = some (.int .i64 y.id))
theorem rge_of {n q s B : Nat} {a : Option Addr} {cap : Nat} {M : List AEnt} {x y : AEnt} {J : List AEnt → World → Prop} {pre : List AEnt} {z X : Nat} {c : AEnt} {W : World} (h1 : SpB n q s B a cap M x y W) (h2 : J pre W) (h3 : z ≤ W.heap.size) (h4 : Box X [.int .i64 c.k, .int .i64 c.n, .string c.s, .int .i64 c.id] W) : RgE n q s B a cap M x y J pre z X c W :=
  ⟨⟨h1, h2, h3, h4⟩, h1.ptr, h1.box, h4.four, ⟨h1.byy 0 _ rfl, h1.byy 1 _ rfl, h1.byy 2 _ rfl, h1.byy 3 _ rfl⟩⟩
theorem rge_next {n q s B : Nat} {a : Option Addr} {cap : Nat} {M : List AEnt} {x y : AEnt} {J : List AEnt → World → Prop} {pre : List AEnt} {z X : Nat} {c : AEnt} {W W' : World} (hJ : AbidesFrom z J) (h : RgE n q s B a cap M x y J pre z X c W) (hb : Below W.heap.size W W') : RgE n q s B a cap M x y J pre z X c W' :=
  rge_of (h.1.1.later hb) (abides_below hJ h.1.2.1 hb) (Nat.le_trans h.1.2.2.1 hb.size) (h.1.2.2.2.next hb)

set_option maxRecDepth 100000 in
set_option maxHeartbeats 4000000 in
theorem span1_in (m : Nat) (hm3 : 3 ≤ m) (l n q s B : Nat) (a : Option Addr) (cap : Nat) (M : List AEnt) (x y : AEnt) (hA : Asc M) (hm : M.length ≤ 1048576) (hc : M.length ≤ cap) (J Jx : List AEnt → World → Prop) (w : World)
    (hJ : AbidesFrom w.heap.size J)
    (hY : ∀ pre c W, J pre W → pre.length < (spanY M x y).length → YieldAt Fence.wide (m - 1) Try.prog l (encE c) W fun e W' => ∃ r, e = .returned (.bool r) ∧ RdE n q J Jx (pre ++ [c]) W r W')
    (hS : SpB n q s B a cap M x y w) (h0 : J [] w) :
    CallsIn Fence.wide m Try.prog 57 #[.func (.yield l) #[] #[], .pointer (some ⟨s, 0, none⟩), .pointer (some ⟨s + 1, 0, none⟩), .pointer (some ⟨s + 2, 0, none⟩)] w fun e W' => (∃ v, e = .returned v) ∧
      ((∃ ys, ys = spanY M x y ∧ J ys W') ∨ (∃ pre, pre <+: spanY M x y ∧ Jx pre W')) := by
  have hB0 := hS.ptr
  have hX0 := hS.bx 0 _ rfl
  have hX1 := hS.bx 1 _ rfl
  have hX2 := hS.bx 2 _ rfl
  have hX3 := hS.bx 3 _ rfl
  refine callsIn_of_wp Try.func57 rfl trivial ?_ rfl
  simp only [Try.ntmps57, List.size_toArray, List.length_cons, List.length_nil, Nat.reduceAdd, Nat.reduceSub, Array.replicate_succ, Array.replicate_zero, List.push_toArray, List.append_toArray, List.nil_append, List.cons_append]
  gi_wp2
  refine ⟨trivial, fun _ => by omega, (callsIn_wide.2 (place_of B a cap M x w hS.lst hA hm)).mono ?_⟩
  rintro e w1 ⟨rfl, hb⟩
  have S1 : SpB n q s B a cap M x y w1 := hS.later hb
  have J1 : Hid (J [] w1 ∧ w.heap.size ≤ w1.heap.size) := ⟨abides_below hJ h0 hb, hb.size⟩
  have hpl : posE M x ≤ M.length := (isAt_pos hA x).1
  have hP : Hid (spanY M x y = (M.drop (posE M x)).takeWhile fun c => decide (cmpE c y ≤ 0)) := rfl
  clear hS h0 hb hB0 hX0 hX1 hX2 hX3
  revert hP hpl
  generalize posE M x = p
  intro hpl hP
  have hB1 := S1.ptr
  have hb1 := S1.box
  have S1' : Hid (SpB n q s B a cap M x y w1) := S1
  clear S1
  by_cases hce : cap = p
  · obtain rfl : p = M.length := by omega
    subst hce
    have hT : Hid (spanY M x y = []) := by
      show spanY M x y = []
      rw [hP.out, List.drop_length]
      rfl
    gi_wp2
    gi_loopw [22] (fun i wr => i = .int .i64 0 ∧ Hid (J [] wr)) (fun _ _ => 0)
    case atStart => exact ⟨rfl, J1.out.1⟩
    case round =>
      obtain ⟨rfl, hH⟩ := hrel
      gi_wp2
      go_end0
      exact ⟨⟨_, rfl⟩, .inl ⟨_, hT.out.symm, hH.out⟩⟩
  · gi_wp2
    gi_loopw [22] (fun i wr => ∃ k : Nat, k ≤ M.length - p ∧ i = .int .i64 k ∧ Hid (J ((M.drop p).take k) wr ∧ w.heap.size ≤ wr.heap.size ∧ SpB n q s B a cap M x y wr ∧ ∀ t c, t < k → (M.drop p)[t]? = some c → cmpE c y ≤ 0)) (fun i _ => M.length - p - (intOf i).toNat)
    case atStart => exact ⟨0, Nat.zero_le _, rfl, J1.out.1, J1.out.2, S1'.out, fun t c h => absurd h (Nat.not_lt_zero _)⟩
    case round =>
      obtain ⟨k, hk, rfl, hH⟩ := hrel
      clear hB1 hb1 J1 S1'
      by_cases hlt : k < M.length - p
      · have hE := ents_drop1 hH.out.2.2.1.at p
        have hkd : k < (M.drop p).length := by simpa using hlt
        obtain ⟨b, o, hab, hbl, hr⟩ := hE.at hkd
        have hcx : (M.drop p)[k]? = some (M.drop p)[k] := List.getElem?_eq_getElem hkd
        revert hr hcx
        generalize (M.drop p)[k] = c
        intro hr hcx
        have hix : ∀ wx, (Instr.indexAt 25 (.slice (Option.map (fun x => x.add (p * 4)) a) (M.length - p) (cap - p)) (.int .i64 k)).run Try.prog wx = .ok (.pointer (some ⟨b, o + k * 4, none⟩)) wx := fun wx => by
          rw [hab]; exact run_ix4 _ _ _ _ _ _ _ wx hlt Try.underlying25 (Try.sizeOf38 wx)
        have hT1 := cells4_of hr
        have hC : Hid ((M.drop p)[k]? = some c) := hcx
        clear hab hr hcx hE
        have b4 : Below wr.heap.size wr (wr.alloc (.cells #[.int .i64 c.k, .int .i64 c.n, .string c.s, .int .i64 c.id] 38)) := (Below.refl _ _).alloc (Nat.le_refl _) _
        have S4 := hH.out.2.2.1.later b4
        have p4 := S4.ptr
        have s4 := S4.box
        have x4 := (Box.start wr [.int .i64 c.k, .int .i64 c.n, .string c.s, .int .i64 c.id] 38).four
        have y4 : (wr.alloc (.cells #[.int .i64 c.k, .int .i64 c.n, .string c.s, .int .i64 c.id] 38)).cell? ⟨s + 2, 0, none⟩ = some (.int .i64 y.k) ∧ (wr.alloc (.cells #[.int .i64 c.k, .int .i64 c.n, .string c.s, .int .i64 c.id] 38)).cell? ⟨s + 2, 1, none⟩ = some (.int .i64 y.n) ∧ (wr.alloc (.cells #[.int .i64 c.k, .int .i64 c.n, .string c.s, .int .i64 c.id] 38)).cell? ⟨s + 2, 2, none⟩ = some (.string y.s) ∧ (wr.alloc (.cells #[.int .i64 c.k, .int .i64 c.n, .string c.s, .int .i64 c.id] 38)).cell? ⟨s + 2, 3, none⟩ = some (.int .i64 y.id) := ⟨S4.byy 0 _ rfl, S4.byy 1 _ rfl, S4.byy 2 _ rfl, S4.byy 3 _ rfl⟩
        have S4' : Hid (SpB n q s B a cap M x y (wr.alloc (.cells #[.int .i64 c.k, .int .i64 c.n, .string c.s, .int .i64 c.id] 38)).drew ∧ Box wr.heap.size [.int .i64 c.k, .int .i64 c.n, .string c.s, .int .i64 c.id] (wr.alloc (.cells #[.int .i64 c.k, .int .i64 c.n, .string c.s, .int .i64 c.id] 38)).drew ∧ J ((M.drop p).take k) (wr.alloc (.cells #[.int .i64 c.k, .int .i64 c.n, .string c.s, .int .i64 c.id] 38)).drew ∧ w.heap.size ≤ (wr.alloc (.cells #[.int .i64 c.k, .int .i64 c.n, .string c.s, .int .i64 c.id] 38)).drew.heap.size) := ⟨S4.later (Below.refl _ _).drew, (Box.start wr [.int .i64 c.k, .int .i64 c.n, .string c.s, .int .i64 c.id] 38).next (Below.refl _ _).drew, abides_below hJ hH.out.1 b4.drew, Nat.le_trans hH.out.2.1 b4.size⟩
        clear b4 S4
        by_cases hcm : cmpE c y ≤ 0
        · have hg : decide (0 < cmpE c y) = false := decide_eq_false (by omega)
          have hlen : Hid (k < (spanY M x y).length) := by
            show k < (spanY M x y).length
            rw [hP.out]
            exact tw_ge (M.drop p) (k + 1) (by omega) (fun t d ht hd => by
              by_cases htk : t = k
              · subst htk
                rw [hC.out] at hd
                cases hd
                exact decide_eq_true hcm
              · exact decide_eq_true (hH.out.2.2.2 t d (by omega) hd))
          have hCm : Hid (cmpE c y ≤ 0) := hcm
          clear hcm
          have hYc : ∀ W, J ((M.drop p).take k) W → ∃ fn tmps assign body, (Instr.yield l #[.agg #[.int .i64 c.k, .int .i64 c.n, .string c.s, .int .i64 c.id]]).run Try.prog W = .ok (.round l fn tmps assign body) W ∧ RoundIn Fence.wide (m - 1) Try.prog l fn tmps assign body W fun e W' => ∃ r, e = .returned (.bool r) ∧ RdE n q J Jx ((M.drop p).take k ++ [c]) W r W' :=
            fun W h => hY ((M.drop p).take k) c W h (by rw [List.length_take]; have := hlen.out; omega)
          gi_wp2
          gi_region_with (first
            | (refine ⟨trivial, fun _ => by omega, ?_⟩; gi_at_call 50; refine (callsIn_wide.2 (compare_entries c y _)).mono ?_; rintro e w' ⟨rfl, hq⟩; have S5 : Hid (SpB n q s B a cap M x y w' ∧ w.heap.size ≤ w'.heap.size) := ⟨S4'.out.1.later hq, Nat.le_trans S4'.out.2.2.2 hq.size⟩; have x5 := (S4'.out.2.1.next hq).four; obtain ⟨fn, tmps, assign, body, hy, hR⟩ := hYc w' (abides_below hJ S4'.out.2.2.1 hq); clear hq)
            | (refine ⟨fun _ => by omega, hR.mono ?_⟩; rintro e W3 ⟨r, rfl, hRd⟩; clear hR hy))
          all_goals
            cases r
            · gi_wp2
              refine bodyPost_ret (results_none rfl _ _ _) rfl ?_
              refine ⟨⟨_, rfl⟩, .inr ⟨_, ?_, hRd.2 rfl⟩⟩
              rw [take_next hC.out, hP.out]
              have := hlen.out
              rw [hP.out] at this
              exact tw_pre this
            · gi_wp2
              go_roundw
              case rel =>
                have h := hRd.1 rfl
                refine ⟨k + 1, by omega, by go_num, by rw [← take_next hC.out]; exact h.1, Nat.le_trans S5.out.2 h.2.size, S5.out.1.but h.2, fun t d ht hd => ?_⟩
                by_cases htk : t = k
                · subst htk
                  rw [hC.out] at hd
                  cases hd
                  exact hCm.out
                · exact hH.out.2.2.2 t d (by omega) hd
              case measure => simp [intOf]; omega
        · have hg : decide (0 < cmpE c y) = true := decide_eq_true (by omega)
          have hCm : Hid (¬ cmpE c y ≤ 0) := hcm
          clear hcm
          have hT : RgE n q s B a cap M x y J ((M.drop p).take k) w.heap.size wr.heap.size c (wr.alloc (.cells #[.int .i64 c.k, .int .i64 c.n, .string c.s, .int .i64 c.id] 38)).drew := rge_of S4'.out.1 S4'.out.2.2.1 S4'.out.2.2.2 S4'.out.2.1
          have inh : Nonempty (Over (RgE n q s B a cap M x y J ((M.drop p).take k) w.heap.size wr.heap.size c)) := ⟨⟨_, hT⟩⟩
          have f0 : ∀ p' : Over (RgE n q s B a cap M x y J ((M.drop p).take k) w.heap.size wr.heap.size c), p'.W.cell? ⟨s, 0, none⟩ = some (.pointer (some ⟨B, 0, none⟩)) := fun p' => p'.ok.2.1
          have f1 : ∀ p' : Over (RgE n q s B a cap M x y J ((M.drop p).take k) w.heap.size wr.heap.size c), SBox B (.slice a M.length cap) (.func (.func 50) #[] #[]) p'.W := fun p' => p'.ok.2.2.1
          have f2 : ∀ p' : Over (RgE n q s B a cap M x y J ((M.drop p).take k) w.heap.size wr.heap.size c), p'.W.cell? ⟨wr.heap.size, 0, none⟩ = some (.int .i64 c.k) ∧ p'.W.cell? ⟨wr.heap.size, 1, none⟩ = some (.int .i64 c.n) ∧ p'.W.cell? ⟨wr.heap.size, 2, none⟩ = some (.string c.s) ∧ p'.W.cell? ⟨wr.heap.size, 3, none⟩ = some (.int .i64 c.id) := fun p' => p'.ok.2.2.2.1
          have f3 : ∀ p' : Over (RgE n q s B a cap M x y J ((M.drop p).take k) w.heap.size wr.heap.size c), p'.W.cell? ⟨s + 2, 0, none⟩ = some (.int .i64 y.k) ∧ p'.W.cell? ⟨s + 2, 1, none⟩ = some (.int .i64 y.n) ∧ p'.W.cell? ⟨s + 2, 2, none⟩ = some (.string y.s) ∧ p'.W.cell? ⟨s + 2, 3, none⟩ = some (.int .i64 y.id) := fun p' => p'.ok.2.2.2.2
          have hcon : ∀ W, Calls Try.prog 50 #[.agg #[.int .i64 c.k, .int .i64 c.n, .string c.s, .int .i64 c.id], .agg #[.int .i64 y.k, .int .i64 y.n, .string y.s, .int .i64 y.id]] W fun e w' => e = .returned (.int .i64 (cmpE c y)) ∧ Below W.heap.size W w' := fun W => compare_entries c y W
          clear x4 y4 s4 p4 S4'
          gi_wp2
          refine wpIn_wide.2 ?_
          refine wp_region_over (S := RgE n q s B a cap M x y J ((M.drop p).take k) w.heap.size wr.heap.size c) (by kernel_rfl) (by kernel_rfl) hT ?_
          repeat (go_big_quiet_step (first | exact over_call (hcon _) (fun _ h => rge_next hJ (Over.ok _) h)))
          refine wpQuiet_nil ?_
          rintro wq ⟨p', hp'⟩
          have hq : Hid (J ((M.drop p).take k) wq) := by
            have := p'.ok.1.2.1
            rw [← hp'] at this
            exact this
          clear hp' p' f0 f1 f2 f3 inh hT
          gi_wp2
          refine bodyPost_ret (results_none rfl _ _ _) rfl ?_
          refine ⟨⟨_, rfl⟩, .inl ⟨_, ?_, hq.out⟩⟩
          rw [hP.out]
          exact (tw_stop (by simp; omega) (fun t d ht hd => decide_eq_true (hH.out.2.2.2 t d ht hd)) (fun d hd => by rw [hC.out] at hd; cases hd; exact decide_eq_false (by have := hCm.out; omega))).symm
      · have hkl : k = M.length - p := by omega
        subst hkl
        gi_wp2
        go_end0
        refine ⟨⟨_, rfl⟩, .inl ⟨_, ?_, hH.out.1⟩⟩
        rw [hP.out]
        exact (tw_stop (by simp) (fun t d ht hd => decide_eq_true (hH.out.2.2.2 t d ht hd)) (fun d hd => by have := (List.getElem?_eq_some_iff.1 hd).1; simp at this)).symm

end Go.Proofs.Ytobblnlefhkanaa

/- What lies between two places of a list in order. -/
namespace Go.Proofs.Ytobblnlefhkanaa
open Go.RowKit

theorem band {p q : AEnt → Bool} : ∀ L : List AEnt, L.Pairwise (fun c d => (p d = true → p c = true) ∧ (q d = true → q c = true)) → (L.drop (L.takeWhile p).length).takeWhile q = L.filter (fun c => !p c && q c) := by
  intro L
  induction L with
  | nil => intro _; rfl
  | cons c L ih =>
    intro h
    obtain ⟨h1, h2⟩ := List.pairwise_cons.1 h
    have ih := ih h2
    cases hp : p c
    · have hn : L.takeWhile p = [] := by
        cases L with
        | nil => rfl
        | cons d L =>
          have hd : p d = false := by
            cases hd : p d
            · rfl
            · have := (h1 d (List.mem_cons_self ..)).1 hd
              rw [hp] at this
              cases this
          rw [List.takeWhile_cons, hd]
          rfl
      rw [hn] at ih
      simp only [List.takeWhile_cons, hp, List.filter_cons, Bool.not_false, Bool.true_and]
      cases hq : q c
      · have hf : L.filter (fun c => !p c && q c) = [] := by
          rw [List.filter_eq_nil_iff]
          intro d hd
          cases hqd : q d
          · simp
          · have := (h1 d hd).2 hqd
            rw [hq] at this
            cases this
        simp [hf, hq]
      · simp only [if_true, Bool.false_eq_true, if_false, List.length_nil, List.drop_zero, List.takeWhile_cons, hq] at ih ⊢
        rw [ih]
    · simp only [List.takeWhile_cons, hp, if_true, List.length_cons, List.drop_succ_cons, List.filter_cons, Bool.not_true, Bool.false_and, Bool.false_eq_true, if_false]
      exact ih

theorem cmpE_le (c y : AEnt) : decide (cmpE c y ≤ 0) = !lessE y c := by
  rw [cmpE_eq]
  cases h : lessE c y
  · cases h2 : eqE c y
    · cases h3 : lessE y c
      · have := lessE_tri c y h h3
        rw [this, eqE_refl] at h2
        cases h2
      · rfl
    · rw [eqE_ext h2, lessE_irr]
      rfl
  · rw [lessE_asym c y h]
    rfl

theorem lessV_same (k n : Int) (s : ByteArray) : lessV k n s k n s = false := by
  rw [less_eq]
  simp [bad, bl_irr]
theorem less_lo {c lo : AEnt} (h : 1 ≤ c.id) : lessE c ⟨lo.k, lo.n, lo.s, 1⟩ = lessV c.k c.n c.s lo.k lo.n lo.s := by
  unfold lessE
  cases he : eqV c ⟨lo.k, lo.n, lo.s, 1⟩
  · rfl
  · obtain ⟨h1, h2, h3⟩ := eqV_ext he
    simp only at h1 h2 h3
    rw [h1, h2, h3, lessV_same, if_pos rfl]
    exact decide_eq_false (by simp only; omega)
theorem less_hi {c hi : AEnt} (h : c.id ≤ 60) : lessE ⟨hi.k, hi.n, hi.s, 60⟩ c = lessV hi.k hi.n hi.s c.k c.n c.s := by
  unfold lessE
  cases he : eqV ⟨hi.k, hi.n, hi.s, 60⟩ c
  · rfl
  · obtain ⟨h1, h2, h3⟩ := eqV_ext he
    simp only at h1 h2 h3
    rw [h1, h2, h3, lessV_same, if_pos rfl]
    exact decide_eq_false (by simp only; omega)

/-- What the iterator yields between a value's least entry and another one's greatest. -/
theorem span_eq {M : List AEnt} (h : indexOk M = true) (lo hi : AEnt) :
    ((M.drop (posE M ⟨lo.k, lo.n, lo.s, 1⟩)).takeWhile fun c => decide (cmpE c ⟨hi.k, hi.n, hi.s, 60⟩ ≤ 0)) = M.filter (inSpan lo hi) := by
  simp only [indexOk, Bool.and_eq_true, decide_eq_true_eq, List.all_eq_true] at h
  have hA := (ascB_iff M).1 h.2.2
  have hp : M.Pairwise (fun c d => (lessE d ⟨lo.k, lo.n, lo.s, 1⟩ = true → lessE c ⟨lo.k, lo.n, lo.s, 1⟩ = true) ∧ (decide (cmpE d ⟨hi.k, hi.n, hi.s, 60⟩ ≤ 0) = true → decide (cmpE c ⟨hi.k, hi.n, hi.s, 60⟩ ≤ 0) = true)) := by
    rw [List.pairwise_iff_getElem]
    intro i j hi' hj hij
    have hl : lessE M[i] M[j] = true := hA.lt hij (List.getElem?_eq_getElem hi') (List.getElem?_eq_getElem hj)
    refine ⟨fun h1 => lessE_trans _ _ _ hl h1, fun h1 => ?_⟩
    rw [cmpE_le] at h1 ⊢
    cases h2 : lessE ⟨hi.k, hi.n, hi.s, 60⟩ M[i]
    · rfl
    · rw [lessE_trans _ _ _ h2 hl] at h1
      cases h1
  have hb := band M hp
  unfold posE
  rw [hb]
  refine List.filter_congr fun c hc => ?_
  have hok := h.2.1 c hc
  simp only [AEnt.ok, Bool.and_eq_true, decide_eq_true_eq] at hok
  rw [cmpE_le, less_lo hok.2.1, less_hi hok.2.2]
  rfl

/-- Between a value and itself lies what has that value. -/
theorem inSpan_self (v c : AEnt) : inSpan v v c = eqV c v := by
  unfold inSpan
  rw [less_eq, less_eq]
  cases he : eqV c v
  · by_cases h1 : c.k = v.k
    · by_cases h2 : c.n = v.n
      · have h3 : c.s.toList ≠ v.s.toList := fun e => by
          have := (eqV_iff c v).2 ⟨h1, h2, e⟩
          rw [he] at this
          cases this
        simp only [h1, h2, if_true, bad]
        cases h4 : Op.bytesLess c.s.toList v.s.toList
        · cases h5 : Op.bytesLess v.s.toList c.s.toList
          · exact absurd (bl_tri _ _ h4 h5) h3
          · rfl
        · rfl
      · have h2' : ¬ v.n = c.n := fun e => h2 e.symm
        simp only [h1, h2, h2', if_true, if_false]
        by_cases h4 : c.n < v.n
        · simp [h4]
        · have : v.n < c.n := by omega
          simp [this]
    · have h1' : ¬ v.k = c.k := fun e => h1 e.symm
      simp only [h1, h1', if_false]
      by_cases h4 : c.k < v.k
      · simp [h4]
      · have : v.k < c.k := by omega
        simp [this]
  · obtain ⟨h1, h2, h3⟩ := eqV_ext he
    simp [h1, h2, h3, bad, bl_irr]

end Go.Proofs.Ytobblnlefhkanaa
