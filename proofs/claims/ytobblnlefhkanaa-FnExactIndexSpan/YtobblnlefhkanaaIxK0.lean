/- What turns one block alone; marks. -/
import Derived.Test.YtobblnlefhkanaaIxC0
namespace Go.Proofs.Ytobblnlefhkanaa
open Go.RowKit

/-- The decimals of n ahead of a text. -/
def mt (n : Nat) (s : ByteArray) : ByteArray := if n = 0 then s else mt (n / 10) (⟨#[UInt8.ofNat (48 + n % 10)]⟩ ++ s)
termination_by n

def markT (n : Nat) : ByteArray := ⟨#[109]⟩ ++ mt n ⟨#[]⟩

theorem mt_zero (s : ByteArray) : mt 0 s = s := by rw [mt]; simp

theorem mt_next (n : Nat) (s : ByteArray) (h : 0 < n) : mt n s = mt (n / 10) (⟨#[UInt8.ofNat (48 + n % 10)]⟩ ++ s) := by
  rw [mt, if_neg (by omega)]

/-- Of what lay in W only block B has turned in W'; blocks may have come. -/
structure Turn (B : Nat) (W W' : World) : Prop where
  os : W'.os = W.os
  tape : W'.tape = W.tape
  output : W'.output = W.output
  size : W.heap.size ≤ W'.heap.size
  block : ∀ k, k < W.heap.size → k ≠ B → W'.heap[k]? = W.heap[k]?

theorem Turn.refl (B : Nat) (W : World) : Turn B W W := ⟨rfl, rfl, rfl, Nat.le_refl _, fun _ _ _ => rfl⟩

theorem Turn.next {B : Nat} {w W W' : World} (h : Turn B w W) (k : Below W.heap.size W W') : Turn B w W' :=
  ⟨k.os.trans h.os, k.tape.trans h.tape, k.output.trans h.output, Nat.le_trans h.size k.size, fun i hi hg => (k.block i (Nat.lt_of_lt_of_le hi h.size)).trans (h.block i hi hg)⟩

theorem Turn.set {B : Nat} {w W : World} (h : Turn B w W) (o : Nat) (v : Value) : Turn B w (W.setCell ⟨B, o, none⟩ v) :=
  ⟨h.os, h.tape, h.output, by simpa [World.setCell] using h.size, fun i hi hg => (Below.heap_setCell W ⟨B, o, none⟩ v i hg).trans (h.block i hi hg)⟩

theorem Turn.sets {B : Nat} {w W : World} (h : Turn B w W) (o : Nat) (vs : List Value) : Turn B w (W.setCells B o vs) := by
  induction vs generalizing o W with
  | nil => exact h
  | cons v r ih => exact ih (h.set o v) _

theorem Turn.below {B C : Nat} {w W : World} (h : Turn B w W) (hC : C ≤ B) (hs : C ≤ w.heap.size) : Below C w W := ⟨h.os, h.tape, h.output, h.size, fun k hk => h.block k (by omega) (by omega)⟩

theorem Turn.cell {B : Nat} {W W' : World} (h : Turn B W W') {b : Nat} (h1 : b < W.heap.size) (h2 : b ≠ B) (o : Nat) : W'.cell? ⟨b, o, none⟩ = W.cell? ⟨b, o, none⟩ := World.cell?_of_block (w := W) (a := ⟨b, o, none⟩) (h.block b h1 h2)

theorem Turn.frozen {B : Nat} {W W' : World} (h : Turn B W W') {b : Nat} (h1 : b < W.heap.size) (h2 : b ≠ B) (o : Nat) : W'.frozen? ⟨b, o, none⟩ = W.frozen? ⟨b, o, none⟩ := World.frozen?_of_block (w := W) (a := ⟨b, o, none⟩) (h.block b h1 h2)

theorem Turn.ents {B : Nat} {W W' : World} (h : Turn B W W') {a : Option Addr} {L : List AEnt} (hL : EntsAt W a L) (ha : L = [] ∨ ∀ b o, a = some ⟨b, o, none⟩ → b ≠ B) : EntsAt W' a L := by
  rcases hL with hL | ⟨b, o, e, hlt, hr⟩
  · exact Or.inl hL
  · rcases ha with ha | ha
    · exact Or.inl ha
    · exact Or.inr ⟨b, o, e, Nat.lt_of_lt_of_le hlt h.size, fun i c hc j v hv => by rw [h.cell hlt (ha b o e)]; exact hr i c hc j v hv⟩

/-- The marks of an entry from k on. -/
def mkEnt (k : Nat) : AEnt := ⟨k, (k : Int) + 1, markT (k + 2), (k : Int) + 1 + 1 + 1⟩

theorem run_ix4o {P : Program} (t e : TypeId) (a : Option Addr) (B len cap k : Nat) (w : World) (ha : a = some ⟨B, 0, none⟩ ∨ len = 0) (hk : k < len) (ht : P.underlying t = some (.slice e)) (hs : (sizeOf e).run P w = .ok 4 w) :
    (Instr.indexAt t (.slice a len cap) (.int .i64 k)).run P w = .ok (.pointer (some ⟨B, k * 4, none⟩)) w := by
  rcases ha with rfl | h
  · have := run_ix4 t e B 0 len cap k w hk ht hs
    rwa [Nat.zero_add] at this
  · omega

end Go.Proofs.Ytobblnlefhkanaa
