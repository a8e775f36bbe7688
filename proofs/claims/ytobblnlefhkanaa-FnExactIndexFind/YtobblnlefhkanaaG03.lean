/- The contracts of laws.eqVal, eqEntry and eqEntryS at two that are one, over the seat's translation. -/
import Derived.Test.YtobblnlefhkanaaG02
import Derived.Test.YtobblnlefhkanaaRows
import Derived.WalkKit
import Derived.Deep.QuietTactic
import Derived.BigQuiet
namespace Go.Proofs.Ytobblnlefhkanaa
open Go.RowKit

theorem eq_val (k n : Int) (s : ByteArray) (w : World) :
    Calls Try.prog 52 #[.agg #[.int .i64 k, .int .i64 n, .string s], .agg #[.int .i64 k, .int .i64 n, .string s]] w fun e w' => e = .returned (.bool true) ∧ Below w.heap.size w w' := by
  go_enter Try.func52, Try.ntmps52
  go_wp2
  go_ret
  exact ⟨rfl, ((Below.refl _ _).alloc (Nat.le_refl _) _).alloc (by simp) _⟩

set_option maxRecDepth 100000 in
set_option maxHeartbeats 1000000 in
theorem eq_entry (x : AEnt) (w : World) :
    Calls Try.prog 36 #[.agg #[.int .i64 x.k, .int .i64 x.n, .string x.s, .int .i64 x.id], .agg #[.int .i64 x.k, .int .i64 x.n, .string x.s, .int .i64 x.id]] w fun e w' => e = .returned (.bool true) ∧ Below w.heap.size w w' := by
  have b1 : Below (w.alloc (.cells #[.int .i64 x.k, .int .i64 x.n, .string x.s, .int .i64 x.id] 38)).heap.size (w.alloc (.cells #[.int .i64 x.k, .int .i64 x.n, .string x.s, .int .i64 x.id] 38)) ((w.alloc (.cells #[.int .i64 x.k, .int .i64 x.n, .string x.s, .int .i64 x.id] 38)).alloc (.cells #[.int .i64 x.k, .int .i64 x.n, .string x.s, .int .i64 x.id] 38)) := (Below.refl _ _).alloc (Nat.le_refl _) _
  have h1 := (Box.start w [.int .i64 x.k, .int .i64 x.n, .string x.s, .int .i64 x.id] 38).next b1
  have h2 := Box.start (w.alloc (.cells #[.int .i64 x.k, .int .i64 x.n, .string x.s, .int .i64 x.id] 38)) [.int .i64 x.k, .int .i64 x.n, .string x.s, .int .i64 x.id] 38
  rw [size_alloc] at h2
  have H : Hid (Box w.heap.size [.int .i64 x.k, .int .i64 x.n, .string x.s, .int .i64 x.id] _ ∧ Box (w.heap.size + 1) [.int .i64 x.k, .int .i64 x.n, .string x.s, .int .i64 x.id] _) := ⟨h1, h2⟩
  clear h1 h2 b1
  go_enter Try.func36, Try.ntmps36
  go_wp2_with fail
  refine (eq_val _ _ _ _).mono ?_
  rintro e w' ⟨rfl, hq⟩
  have hP : Hid (Below w.heap.size w w') := (((Below.refl w.heap.size w).alloc (Nat.le_refl _) _).alloc (by simp) _).trans (hq.mono (by simp; omega))
  have g1 := (H.out.1.next hq).four
  have g2 := (H.out.2.next hq).four
  clear hq H
  go_wp2_with fail
  go_ret
  exact ⟨rfl, hP.out⟩

set_option maxRecDepth 100000 in
set_option maxHeartbeats 1000000 in
theorem eq_entries (a b : Option Addr) (cap cap' : Nat) (L : List AEnt) (w : World) (ha : EntsAt w a L) (hb : EntsAt w b L) (hm : L.length ≤ maxLen) :
    Calls Try.prog 13 #[.slice a L.length cap, .slice b L.length cap'] w fun e w' => e = .returned (.bool true) ∧ Below w.heap.size w w' := by
  unfold maxLen at hm
  go_enter Try.func13, Try.ntmps13
  go_wp2_with fail
  go_loopw [5] (fun i wr => ∃ k : Nat, k ≤ L.length ∧ i = .int .i64 k ∧ Hid (Below w.heap.size w wr)) (fun i _ => L.length - (intOf i).toNat)
  case atStart => exact ⟨0, Nat.zero_le _, rfl, Below.refl _ _⟩
  case round =>
    obtain ⟨k, hk, rfl, hH⟩ := hrel
    by_cases hlt : k < L.length
    · obtain ⟨b1, o1, hab1, hbl1, hr1⟩ := (ha.keep hH.out).at hlt
      obtain ⟨b2, o2, hab2, hbl2, hr2⟩ := (hb.keep hH.out).at hlt
      revert hr1 hr2
      generalize L[k] = c
      intro hr1 hr2
      have hix : ∀ wx, (Instr.indexAt 25 (.slice a L.length cap) (.int .i64 k)).run Try.prog wx = .ok (.pointer (some ⟨b1, o1 + k * 4, none⟩)) wx := fun wx => by
        rw [hab1]; exact run_ix4 _ _ _ _ _ _ _ wx hlt Try.underlying25 (Try.sizeOf38 wx)
      have hiy : ∀ wx, (Instr.indexAt 25 (.slice b L.length cap') (.int .i64 k)).run Try.prog wx = .ok (.pointer (some ⟨b2, o2 + k * 4, none⟩)) wx := fun wx => by
        rw [hab2]; exact run_ix4 _ _ _ _ _ _ _ wx hlt Try.underlying25 (Try.sizeOf38 wx)
      have hT : TwoEnts w b1 (o1 + k * 4) b2 (o2 + k * 4) c c wr := ⟨cells4_of hr1, cells4_of hr2, hbl1, hbl2, hH.out⟩
      clear hab1 hab2 hr1 hr2 ha hb hH hbl1 hbl2
      go_wp2_with fail
      go_region_held3 (fun W => TwoEnts w b1 (o1 + k * 4) b2 (o2 + k * 4) c c W) (first | assumption | exact twoe_drew (by assumption))
        (first
          | (go_at_call 36; refine (eq_entry _ _).mono ?_; rintro e w' ⟨rfl, hq⟩; have hN := twoe_next (by assumption) hq; clear hq))
      have hE := ‹TwoEnts w b1 (o1 + k * 4) b2 (o2 + k * 4) c c _›
      have hP : Hid (Below w.heap.size w _) := hE.2.2.2.2
      clear hE
      go_wp2_with fail
      go_roundw
      case rel => exact ⟨k + 1, by omega, by go_num, hP⟩
      case measure => simp [intOf]; omega
    · have hkl : k = L.length := by omega
      subst hkl
      go_wp2_with fail
      go_ret
      exact ⟨rfl, hH.out⟩

end Go.Proofs.Ytobblnlefhkanaa

/- Rows of entries that are made. -/
namespace Go.Proofs.Ytobblnlefhkanaa
open Go.RowKit

/-- The box at B holds an entry in W, and may be written. -/
abbrev Own4 (B : Nat) (k n : Int) (s : ByteArray) (id : Int) (W : World) : Prop :=
  W.cell? ⟨B, 0, none⟩ = some (.int .i64 k) ∧ W.cell? ⟨B, 1, none⟩ = some (.int .i64 n) ∧ W.cell? ⟨B, 2, none⟩ = some (.string s) ∧ W.cell? ⟨B, 3, none⟩ = some (.int .i64 id) ∧
    W.frozen? ⟨B, 0, none⟩ = false ∧ W.frozen? ⟨B, 1, none⟩ = false ∧ W.frozen? ⟨B, 2, none⟩ = false ∧ W.frozen? ⟨B, 3, none⟩ = false

theorem own4_next {B : Nat} {k n : Int} {s : ByteArray} {id : Int} {W W' : World} (h : Own4 B k n s id W) (hB : B < W.heap.size) (hb : Below W.heap.size W W') : Own4 B k n s id W' := by
  have hc := fun o => (bcell hb).1 B o hB
  have hf := fun o => (bcell hb).2 B o hB
  unfold Own4
  simp only [hc, hf]
  exact h

theorem own4_box (w : World) (k n : Int) (s : ByteArray) (id : Int) (t : TypeId) : Own4 w.heap.size k n s id (w.alloc (.cells #[.int .i64 k, .int .i64 n, .string s, .int .i64 id] t)) := by
  refine ⟨?_, ?_, ?_, ?_, ?_, ?_, ?_, ?_⟩
  all_goals go_simp

theorem size_sets (W : World) (B o : Nat) (vs : List Value) : (W.setCells B o vs).heap.size = W.heap.size := by
  induction vs generalizing o W with
  | nil => rfl
  | cons v r ih => exact (ih (W.setCell ⟨B, o, none⟩ v) (o + 1)).trans (by simp [World.setCell])

theorem below_sets {B : Nat} {w W : World} (h : Below B w W) (o : Nat) (vs : List Value) : Below B w (W.setCells B o vs) := by
  induction vs generalizing o W with
  | nil => exact h
  | cons v r ih => exact ih (h.setCell (Nat.le_refl _) v) _

/-- Block B is a row of n entries that may be written; its first k are those of L; below B the world is as in w. -/
def MadeE (w : World) (B n k : Nat) (L : List AEnt) (W : World) : Prop :=
  Below B w W ∧ B < W.heap.size ∧ W.there B 0 (n * 4) ∧ ∀ i c, i < k → L[i]? = some c → W.rangeAt B (i * 4) c.cells

theorem MadeE.keep {w : World} {B n k : Nat} {L : List AEnt} {W W' : World} (h : MadeE w B n k L W) (hb : Below W.heap.size W W') : MadeE w B n k L W' := by
  obtain ⟨h1, h2, h3, h4⟩ := h
  have hz := hb.size
  have hc := (bcell hb).1
  have hf := (bcell hb).2
  refine ⟨h1.trans (hb.mono (by omega)), by omega, fun j hj => ?_, fun i c hi hc' j v hv => ?_⟩
  · rw [hc _ _ h2, hf _ _ h2]; exact h3 j hj
  · rw [hc _ _ h2]; exact h4 i c hi hc' j v hv

theorem MadeE.put {w : World} {B n k : Nat} {L : List AEnt} {W : World} {c : AEnt} (h : MadeE w B n k L W) (hk : k < n) (hc : L[k]? = some c) : MadeE w B n (k + 1) L (W.setCells B (k * 4) c.cells) := by
  obtain ⟨h1, h2, h3, h4⟩ := h
  have hlen : c.cells.length = 4 := rfl
  refine ⟨below_sets h1 _ _, by rw [size_sets]; exact h2, World.there_setCells h3 _ _ _, fun i d hi hd => ?_⟩
  by_cases hik : i = k
  · subst hik
    rw [hc] at hd
    cases hd
    exact World.rangeAt_setCells_same _ _ _ _ (fun j hj => by
      have := h3 (i * 4 + j) (by rw [hlen] at hj; omega)
      rwa [Nat.zero_add] at this)
  · refine World.rangeAt_setCells_apart (h4 i d (by omega) hd) _ _ _ (Or.inr (Or.inl ?_))
    have : d.cells.length = 4 := rfl
    omega

theorem MadeE.start (w : World) (n : Nat) (L : List AEnt) (z : Array Value) (t : TypeId) : MadeE w w.heap.size n 0 L (w.alloc (.cells (madeCells z (n * 4)) t)) := by
  refine ⟨(Below.refl _ _).alloc (Nat.le_refl _) _, by simp, fun j hj => ?_, fun i c hi => absurd hi (Nat.not_lt_zero _)⟩
  have hb : (w.alloc (.cells (madeCells z (n * 4)) t)).heap[w.heap.size]? = some (.cells (madeCells z (n * 4)) t) := by
    show (w.heap.push _)[w.heap.size]? = _
    simp
  constructor
  · simp only [World.cell?, hb]
    simp [madeCells, hj]
  · simp only [World.frozen?, hb]
    simp

theorem MadeE.ents {w : World} {B n : Nat} {L : List AEnt} {W : World} (h : MadeE w B n L.length L W) : EntsAt W (some ⟨B, 0, none⟩) L :=
  Or.inr ⟨B, 0, rfl, h.2.1, fun i c hc => by rw [Nat.zero_add]; exact h.2.2.2 i c (List.getElem?_eq_some_iff.1 hc).1 hc⟩

/-- Four cells at an offset, which may be written. -/
abbrev There4 (W : World) (b o : Nat) : Prop :=
  ∃ x0 x1 x2 x3, W.cell? ⟨b, o, none⟩ = some x0 ∧ W.cell? ⟨b, o + 1, none⟩ = some x1 ∧ W.cell? ⟨b, o + 2, none⟩ = some x2 ∧ W.cell? ⟨b, o + 3, none⟩ = some x3 ∧
    W.frozen? ⟨b, o, none⟩ = false ∧ W.frozen? ⟨b, o + 1, none⟩ = false ∧ W.frozen? ⟨b, o + 2, none⟩ = false ∧ W.frozen? ⟨b, o + 3, none⟩ = false

theorem there4_of {W : World} {b n k : Nat} (h : W.there b 0 (n * 4)) (hk : k < n) : There4 W b (k * 4) := by
  have hh : ∀ j, j < 4 → (∃ x, W.cell? ⟨b, k * 4 + j, none⟩ = some x) ∧ W.frozen? ⟨b, k * 4 + j, none⟩ = false := fun j hj => by
    have := h (k * 4 + j) (by omega)
    rw [Nat.zero_add] at this
    exact ⟨Option.isSome_iff_exists.1 this.1, this.2⟩
  obtain ⟨⟨x0, a0⟩, b0⟩ := hh 0 (by omega)
  obtain ⟨⟨x1, a1⟩, b1⟩ := hh 1 (by omega)
  obtain ⟨⟨x2, a2⟩, b2⟩ := hh 2 (by omega)
  obtain ⟨⟨x3, a3⟩, b3⟩ := hh 3 (by omega)
  exact ⟨x0, x1, x2, x3, a0, a1, a2, a3, b0, b1, b2, b3⟩

end Go.Proofs.Ytobblnlefhkanaa

/- What turns one block alone; marks. -/
namespace Go.Proofs.Ytobblnlefhkanaa
open Go.RowKit

/-- The decimals of n ahead of a text. -/
def mt (n : Nat) (s : ByteArray) : ByteArray := if n = 0 then s else mt (n / 10) (⟨#[UInt8.ofNat (48 + n % 10)]⟩ ++ s)
termination_by n

def markT (n : Nat) : ByteArray := ⟨#[109]⟩ ++ mt n ⟨#[]⟩

theorem mt_zero (s : ByteArray) : mt 0 s = s := by rw [mt]; simp

theorem mt_next (n : Nat) (s : ByteArray) (h : 0 < n) : mt n s = mt (n / 10) (⟨#[UInt8.ofNat (48 + n % 10)]⟩ ++ s) := by
  rw [mt, if_neg (by omega)]

/-- Of what lay in W only block B has turned in W'; blocks may have come. -/
structure Turn (B : Nat) (W W' : World) : Prop where
  os : W'.os = W.os
  tape : W'.tape = W.tape
  output : W'.output = W.output
  size : W.heap.size ≤ W'.heap.size
  block : ∀ k, k < W.heap.size → k ≠ B → W'.heap[k]? = W.heap[k]?

theorem Turn.refl (B : Nat) (W : World) : Turn B W W := ⟨rfl, rfl, rfl, Nat.le_refl _, fun _ _ _ => rfl⟩

theorem Turn.next {B : Nat} {w W W' : World} (h : Turn B w W) (k : Below W.heap.size W W') : Turn B w W' :=
  ⟨k.os.trans h.os, k.tape.trans h.tape, k.output.trans h.output, Nat.le_trans h.size k.size, fun i hi hg => (k.block i (Nat.lt_of_lt_of_le hi h.size)).trans (h.block i hi hg)⟩

theorem Turn.set {B : Nat} {w W : World} (h : Turn B w W) (o : Nat) (v : Value) : Turn B w (W.setCell ⟨B, o, none⟩ v) :=
  ⟨h.os, h.tape, h.output, by simpa [World.setCell] using h.size, fun i hi hg => (Below.heap_setCell W ⟨B, o, none⟩ v i hg).trans (h.block i hi hg)⟩

theorem Turn.sets {B : Nat} {w W : World} (h : Turn B w W) (o : Nat) (vs : List Value) : Turn B w (W.setCells B o vs) := by
  induction vs generalizing o W with
  | nil => exact h
  | cons v r ih => exact ih (h.set o v) _

theorem Turn.below {B C : Nat} {w W : World} (h : Turn B w W) (hC : C ≤ B) (hs : C ≤ w.heap.size) : Below C w W := ⟨h.os, h.tape, h.output, h.size, fun k hk => h.block k (by omega) (by omega)⟩

theorem Turn.cell {B : Nat} {W W' : World} (h : Turn B W W') {b : Nat} (h1 : b < W.heap.size) (h2 : b ≠ B) (o : Nat) : W'.cell? ⟨b, o, none⟩ = W.cell? ⟨b, o, none⟩ := World.cell?_of_block (w := W) (a := ⟨b, o, none⟩) (h.block b h1 h2)

theorem Turn.frozen {B : Nat} {W W' : World} (h : Turn B W W') {b : Nat} (h1 : b < W.heap.size) (h2 : b ≠ B) (o : Nat) : W'.frozen? ⟨b, o, none⟩ = W.frozen? ⟨b, o, none⟩ := World.frozen?_of_block (w := W) (a := ⟨b, o, none⟩) (h.block b h1 h2)

theorem Turn.ents {B : Nat} {W W' : World} (h : Turn B W W') {a : Option Addr} {L : List AEnt} (hL : EntsAt W a L) (ha : L = [] ∨ ∀ b o, a = some ⟨b, o, none⟩ → b ≠ B) : EntsAt W' a L := by
  rcases hL with hL | ⟨b, o, e, hlt, hr⟩
  · exact Or.inl hL
  · rcases ha with ha | ha
    · exact Or.inl ha
    · exact Or.inr ⟨b, o, e, Nat.lt_of_lt_of_le hlt h.size, fun i c hc j v hv => by rw [h.cell hlt (ha b o e)]; exact hr i c hc j v hv⟩

/-- The marks of an entry from k on. -/
def mkEnt (k : Nat) : AEnt := ⟨k, (k : Int) + 1, markT (k + 2), (k : Int) + 1 + 1 + 1⟩

theorem run_ix4o {P : Program} (t e : TypeId) (a : Option Addr) (B len cap k : Nat) (w : World) (ha : a = some ⟨B, 0, none⟩ ∨ len = 0) (hk : k < len) (ht : P.underlying t = some (.slice e)) (hs : (sizeOf e).run P w = .ok 4 w) :
    (Instr.indexAt t (.slice a len cap) (.int .i64 k)).run P w = .ok (.pointer (some ⟨B, k * 4, none⟩)) w := by
  rcases ha with rfl | h
  · have := run_ix4 t e B 0 len cap k w hk ht hs
    rwa [Nat.zero_add] at this
  · omega

end Go.Proofs.Ytobblnlefhkanaa

/- A region that draws its order, whose operations read and whose callees leave all that S asks: one walk, over the class of worlds that meet S. -/
namespace Go.Proofs.Ytobblnlefhkanaa
open Go.RowKit

/-- A world that meets S. -/
structure Over (S : World → Prop) where
  W : World
  ok : S W

theorem wp_region_over {P : Program} {id : Nat} {Q : Exit → Act → World → Prop} {a : Act} {w : World} {l : List Oper} {S : World → Prop} (hm : P.follows .mixedOrders = true) (hB : Region.lexB .any l.toArray = true) (hS : S w.drew)
    (h : wpQuiet P l.toArray (fun w' => ∃ p : Over S, w' = p.W) (fun a' => ∀ w', (∃ p : Over S, w' = p.W) → Q .normal a' w') l a) : (Code.region id l.toArray true).wp P Q a w :=
  wp_region_quiet (C := fun w' => ∃ p : Over S, w' = p.W) hm hB ⟨⟨_, hS⟩, rfl⟩ (by simpa using h)

/-- A callee's contract, met in a world of the class. -/
theorem over_call {P : Program} {f : FuncId} {args : Array Value} {S : World → Prop} {p : Over S} {v : Value} {R : World → Prop} (h : Calls P f args p.W fun e w' => e = .returned v ∧ R w') (hR : ∀ w', R w' → S w') :
    Calls P f args p.W fun e w'' => e = .returned v ∧ ∃ q : Over S, w'' = q.W :=
  h.mono fun _ w' ⟨he, hr⟩ => ⟨he, ⟨w', hR w' hr⟩, rfl⟩

end Go.Proofs.Ytobblnlefhkanaa

/- Rows of ints. -/
namespace Go.Proofs.Ytobblnlefhkanaa
open Go.RowKit

/-- The ints L lie in W from where the slice begins. -/
def IntsAt (W : World) (a : Option Addr) (L : List Int) : Prop :=
  L = [] ∨ ∃ b o, a = some ⟨b, o, none⟩ ∧ b < W.heap.size ∧ ∀ i c, L[i]? = some c → W.cell? ⟨b, o + i, none⟩ = some (.int .i64 c)

theorem IntsAt.keep {W W' : World} {a : Option Addr} {L : List Int} (h : IntsAt W a L) (hb : Below W.heap.size W W') : IntsAt W' a L := by
  rcases h with h | ⟨b, o, ha, hlt, hr⟩
  · exact Or.inl h
  · exact Or.inr ⟨b, o, ha, Nat.lt_of_lt_of_le hlt hb.size, fun i c hc => by rw [(bcell hb).1 _ _ hlt]; exact hr i c hc⟩

theorem IntsAt.at {W : World} {a : Option Addr} {L : List Int} (h : IntsAt W a L) {k : Nat} (hk : k < L.length) :
    ∃ b o, a = some ⟨b, o, none⟩ ∧ b < W.heap.size ∧ W.cell? ⟨b, o + k, none⟩ = some (.int .i64 L[k]) := by
  rcases h with h | ⟨b, o, ha, hlt, hr⟩
  · subst h; simp at hk
  · exact ⟨b, o, ha, hlt, hr k _ (List.getElem?_eq_getElem hk)⟩

theorem run_ix1 {P : Program} (t e : TypeId) (b o len cap k : Nat) (w : World) (hk : k < len) (ht : P.underlying t = some (.slice e)) (hs : (sizeOf e).run P w = .ok 1 w) :
    (Instr.indexAt t (.slice (some ⟨b, o, none⟩) len cap) (.int .i64 k)).run P w = .ok (.pointer (some ⟨b, o + k, none⟩)) w := by
  have hE : P.elem t = e := by simp [Program.elem, ht]
  rw [run_indexAt_slice w t _ len cap .i64 k (by rw [hE]; exact ht), if_pos ⟨by omega, by omega⟩, hE, hs]
  simp [Addr.add_mid]

theorem run_ix1o {P : Program} (t e : TypeId) (a : Option Addr) (B len cap k : Nat) (w : World) (ha : a = some ⟨B, 0, none⟩ ∨ len = 0) (hk : k < len) (ht : P.underlying t = some (.slice e)) (hs : (sizeOf e).run P w = .ok 1 w) :
    (Instr.indexAt t (.slice a len cap) (.int .i64 k)).run P w = .ok (.pointer (some ⟨B, k, none⟩)) w := by
  rcases ha with rfl | h
  · have := run_ix1 t e B 0 len cap k w hk ht hs
    rwa [Nat.zero_add] at this
  · omega

/-- Block B holds n ints that may be written; the first i bear marks from k on; nothing else has turned. -/
def MarkedI (w : World) (B n k i : Nat) (W : World) : Prop :=
  Turn B w W ∧ B < W.heap.size ∧ W.there B 0 n ∧ ∀ j, j < i → W.cell? ⟨B, j, none⟩ = some (.int .i64 ((k + j : Nat) : Int))

theorem there1_of {W : World} {B n i : Nat} (h : W.there B 0 n) (hi : i < n) : ∃ v, W.cell? ⟨B, i, none⟩ = some v ∧ W.frozen? ⟨B, i, none⟩ = false := by
  have := h i hi
  rw [Nat.zero_add] at this
  simpa [Option.isSome_iff_exists] using this

theorem MarkedI.set {w : World} {B n k i : Nat} {W : World} (h : MarkedI w B n k i W) (hi : i < n) : MarkedI w B n k (i + 1) (W.setCell ⟨B, i, none⟩ (.int .i64 ((k + i : Nat) : Int))) := by
  obtain ⟨h1, h2, h3, h4⟩ := h
  obtain ⟨v, hv, -⟩ := there1_of h3 hi
  refine ⟨h1.set _ _, by simpa [World.setCell] using h2, World.there_setCells h3 B i [.int .i64 ((k + i : Nat) : Int)], fun j hj => ?_⟩
  by_cases hji : j = i
  · subst hji
    exact World.cell?_setCell_same' _ _ _ (by rw [hv]; rfl)
  · have hne : (⟨B, i, none⟩ : Addr) ≠ ⟨B, j, none⟩ := fun e => hji (by simpa using e.symm)
    exact (World.cell?_setCell_other _ _ _ _ hne).trans (h4 j (by omega))

end Go.Proofs.Ytobblnlefhkanaa
