/- Slices of values, and the contract of laws.szValS, over the seat's translation. -/
import Derived.Test.YtmdmlpijekilhaqShS1
namespace Go.Proofs.Ytmdmlpijekilhaq
open Go.RowKit

/-- A value. -/
structure AVal where
  k : Int
  n : Int
  s : ByteArray

def AVal.cells (v : AVal) : List Value := [.int .i64 v.k, .int .i64 v.n, .string v.s]
def AVal.fit (v : AVal) : Prop := v.s.size ≤ maxLen
def AVal.ok (v : AVal) : Bool := valOk v.k v.n v.s

/-- The values L lie in W from where the slice begins. -/
def ValsAt (W : World) (a : Option Addr) (L : List AVal) : Prop :=
  L = [] ∨ ∃ b o, a = some ⟨b, o, none⟩ ∧ b < W.heap.size ∧ ∀ i c, L[i]? = some c → W.rangeAt b (o + i * 3) c.cells

theorem ValsAt.keep {W W' : World} {a : Option Addr} {L : List AVal} (h : ValsAt W a L) (hb : Below W.heap.size W W') : ValsAt W' a L := by
  rcases h with h | ⟨b, o, ha, hlt, hr⟩
  · exact Or.inl h
  · refine Or.inr ⟨b, o, ha, Nat.lt_of_lt_of_le hlt hb.size, fun i c hc j v hv => ?_⟩
    rw [(bcell hb).1 _ _ hlt]
    exact hr i c hc j v hv

theorem run_ix3 {P : Program} (t e : TypeId) (b o len cap k : Nat) (w : World) (hk : k < len) (ht : P.underlying t = some (.slice e)) (hs : (sizeOf e).run P w = .ok 3 w) :
    (Instr.indexAt t (.slice (some ⟨b, o, none⟩) len cap) (.int .i64 k)).run P w = .ok (.pointer (some ⟨b, o + k * 3, none⟩)) w := by
  have hE : P.elem t = e := by simp [Program.elem, ht]
  rw [run_indexAt_slice w t _ len cap .i64 k (by rw [hE]; exact ht), if_pos ⟨by omega, by omega⟩, hE, hs]
  simp [Addr.add_mid]

theorem ValsAt.at {W : World} {a : Option Addr} {L : List AVal} (h : ValsAt W a L) {k : Nat} (hk : k < L.length) :
    ∃ b o, a = some ⟨b, o, none⟩ ∧ b < W.heap.size ∧ W.rangeAt b (o + k * 3) L[k].cells := by
  rcases h with h | ⟨b, o, ha, hlt, hr⟩
  · subst h; simp at hk
  · exact ⟨b, o, ha, hlt, hr k _ (List.getElem?_eq_getElem hk)⟩

/-- The three cells of a value at an offset. -/
abbrev Cells3 (W : World) (b o : Nat) (c : AVal) : Prop :=
  W.cell? ⟨b, o, none⟩ = some (.int .i64 c.k) ∧ W.cell? ⟨b, o + 1, none⟩ = some (.int .i64 c.n) ∧ W.cell? ⟨b, o + 2, none⟩ = some (.string c.s)
theorem cells3_of {W : World} {b o : Nat} {c : AVal} (h : W.rangeAt b o c.cells) : Cells3 W b o c := ⟨h 0 _ rfl, h 1 _ rfl, h 2 _ rfl⟩
theorem cells3_next {W W' : World} {b o : Nat} {c : AVal} (h : Cells3 W b o c) (hlt : b < W.heap.size) (hb : Below W.heap.size W W') : Cells3 W' b o c := by
  have hc := fun x => (bcell hb).1 b x hlt
  unfold Cells3
  simp only [hc]
  exact h

def totalV (L : List AVal) : Nat := (L.map fun v => v.s.size).sum

theorem totalV_next (L : List AVal) (k : Nat) (c : AVal) (h : L[k]? = some c) : totalV (L.take (k + 1)) = totalV (L.take k) + c.s.size := by
  obtain ⟨hk, rfl⟩ := List.getElem?_eq_some_iff.1 h
  rw [List.take_succ_eq_append_getElem hk]
  unfold totalV
  rw [List.map_append, List.sum_append]
  simp
theorem totalV_le (L : List AVal) (k : Nat) : totalV (L.take k) ≤ totalV L := by
  have h := congrArg totalV (List.take_append_drop k L)
  rw [← h]
  unfold totalV
  rw [List.map_append, List.sum_append]
  omega

set_option maxRecDepth 100000 in
set_option maxHeartbeats 1000000 in
theorem sz_vals (a : Option Addr) (cap : Nat) (L : List AVal) (l : Int) (w : World) (hL : ValsAt w a L) (hf : ∀ c ∈ L, c.fit) (hm : L.length ≤ maxLen) (h0 : 0 ≤ l) (h1 : l ≤ 1048576) :
    Calls Try.prog 22 #[.slice a L.length cap, .int .i64 l] w fun e w' => e = .returned (.int .i64 (left l (L.length + totalV L))) ∧ Below w.heap.size w w' := by
  unfold maxLen at hm
  by_cases ha : (L.length : Int) ≤ l
  · go_enter Try.func22, Try.ntmps22
    go_wp2_with fail
    go_loopw [1, 5] (fun lf i wr => ∃ k : Nat, k ≤ L.length ∧ i = .int .i64 k ∧ lf = .int .i64 (l - L.length - totalV (L.take k)) ∧ Hid (0 ≤ l - L.length - totalV (L.take k) ∧ Below w.heap.size w wr)) (fun _ i _ => L.length - (intOf i).toNat)
    case atStart => exact ⟨0, Nat.zero_le _, rfl, by simp [totalV], ⟨by simp [totalV]; omega, Below.refl _ _⟩⟩
    case round =>
      obtain ⟨k, hk, rfl, rfl, hH⟩ := hrel
      have hlf := hH.out.1
      by_cases hlt : k < L.length
      · obtain ⟨b, o, hab, hbl, hr⟩ := (hL.keep hH.out.2).at hlt
        have hft := hf _ (List.getElem_mem hlt)
        have hnx := totalV_next L k _ (List.getElem?_eq_getElem hlt)
        have hle := totalV_le L (k + 1)
        revert hr hft hnx
        generalize L[k] = c
        intro hr hft hnx
        have hix : ∀ wx, (Instr.indexAt 47 (.slice a L.length cap) (.int .i64 k)).run Try.prog wx = .ok (.pointer (some ⟨b, o + k * 3, none⟩)) wx := fun wx => by
          rw [hab]; exact run_ix3 _ _ _ _ _ _ _ wx hlt Try.underlying47 (Try.sizeOf31 wx)
        have hld := cells3_of hr
        clear hab hr hL
        generalize totalV (L.take k) = tk at *
        have hBel := hH.out.2
        clear hH
        by_cases hc : (c.s.size : Int) ≤ l - L.length - tk
        · have hl' := left_pos hc
          go_wp2_with fail
          refine (sz_val _ _ _ _ _ hft (by omega) (by omega)).mono ?_
          rintro e w' ⟨rfl, hq⟩
          rw [hl']
          have hn2 : l - L.length - (totalV (L.take (k + 1)) : Int) = l - L.length - tk - (c.s.size : Int) := by omega
          have hp : 0 ≤ l - L.length - (totalV (L.take (k + 1)) : Int) := by omega
          rw [← hn2]
          have hB' := hBel.trans (hq.mono hBel.size)
          clear hl' hn2 hq hBel hnx hle
          have hP : Hid (Below w.heap.size w w') := hB'
          clear hB'
          go_wp2_with fail
          go_roundw
          case rel => exact ⟨k + 1, by omega, by go_num, rfl, ⟨hp, hP.out⟩⟩
          case measure => simp [intOf]; omega
        · have hl' := left_neg hc
          go_wp2_with fail
          refine (sz_val _ _ _ _ _ hft (by omega) (by omega)).mono ?_
          rintro e w' ⟨rfl, hq⟩
          rw [hl']
          have hl2 := left_neg (l := l) (z := L.length + totalV L) (by omega)
          have hP : Hid (Below w.heap.size w w') := hBel.trans (hq.mono hBel.size)
          go_wp2_with fail
          go_ret
          rw [hl2]
          exact ⟨rfl, hP.out⟩
      · have hkl : k = L.length := by omega
        subst hkl
        rw [List.take_length] at *
        have hl' := left_pos (l := l) (z := L.length + totalV L) (by omega)
        go_wp2_with fail
        go_ret
        rw [hl']
        refine ⟨?_, hH.out.2⟩
        rw [show l - ((L.length + totalV L : Nat) : Int) = l - L.length - totalV L by omega]
        rfl
  · rw [left_neg (by omega)]
    go_enter Try.func22, Try.ntmps22
    go_wp2_with fail
    go_ret
    exact ⟨rfl, Below.refl _ _⟩

end Go.Proofs.Ytmdmlpijekilhaq
