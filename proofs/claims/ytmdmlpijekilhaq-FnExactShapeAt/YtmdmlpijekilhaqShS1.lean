/- Slices of columns, and the contract of laws.szColS, over the seat's translation. -/
import Derived.Test.YtmdmlpijekilhaqColC4
import Derived.Deep.MidRow
namespace Go.Proofs.Ytmdmlpijekilhaq
open Go.RowKit

/-- A column. -/
structure ACol where
  nm : ByteArray
  kd : Int
  nd : Bool
  oc : Bool
  k : Int
  n : Int
  s : ByteArray

def ACol.cells (c : ACol) : List Value := [.string c.nm, .int .i64 c.kd, .bool c.nd, .bool c.oc, .int .i64 c.k, .int .i64 c.n, .string c.s]
def ACol.fit (c : ACol) : Prop := c.nm.size ≤ maxLen ∧ c.s.size ≤ maxLen
def ACol.ok (c : ACol) : Bool := colOk c.nm c.kd c.oc c.k c.n c.s
def ACol.sz (c : ACol) : Nat := c.nm.size + c.s.size

/-- The columns L lie in W from where the slice begins. -/
def ColsAt (W : World) (a : Option Addr) (L : List ACol) : Prop :=
  L = [] ∨ ∃ b o, a = some ⟨b, o, none⟩ ∧ b < W.heap.size ∧ ∀ i c, L[i]? = some c → W.rangeAt b (o + i * 7) c.cells

theorem ColsAt.keep {W W' : World} {a : Option Addr} {L : List ACol} (h : ColsAt W a L) (hb : Below W.heap.size W W') : ColsAt W' a L := by
  rcases h with h | ⟨b, o, ha, hlt, hr⟩
  · exact Or.inl h
  · refine Or.inr ⟨b, o, ha, Nat.lt_of_lt_of_le hlt hb.size, fun i c hc j v hv => ?_⟩
    rw [(bcell hb).1 _ _ hlt]
    exact hr i c hc j v hv

theorem run_ix {P : Program} (t e : TypeId) (b o len cap k : Nat) (w : World) (hk : k < len) (ht : P.underlying t = some (.slice e)) (hs : (sizeOf e).run P w = .ok 7 w) :
    (Instr.indexAt t (.slice (some ⟨b, o, none⟩) len cap) (.int .i64 k)).run P w = .ok (.pointer (some ⟨b, o + k * 7, none⟩)) w := by
  have hE : P.elem t = e := by simp [Program.elem, ht]
  rw [run_indexAt_slice w t _ len cap .i64 k (by rw [hE]; exact ht), if_pos ⟨by omega, by omega⟩, hE, hs]
  simp [Addr.add_mid]

theorem ColsAt.at {W : World} {a : Option Addr} {L : List ACol} (h : ColsAt W a L) {k : Nat} (hk : k < L.length) :
    ∃ b o, a = some ⟨b, o, none⟩ ∧ b < W.heap.size ∧ W.rangeAt b (o + k * 7) L[k].cells := by
  rcases h with h | ⟨b, o, ha, hlt, hr⟩
  · subst h; simp at hk
  · exact ⟨b, o, ha, hlt, hr k _ (List.getElem?_eq_getElem hk)⟩

/-- The seven cells of a column at an offset. -/
abbrev Cells7 (W : World) (b o : Nat) (c : ACol) : Prop :=
  W.cell? ⟨b, o, none⟩ = some (.string c.nm) ∧ W.cell? ⟨b, o + 1, none⟩ = some (.int .i64 c.kd) ∧ W.cell? ⟨b, o + 2, none⟩ = some (.bool c.nd) ∧ W.cell? ⟨b, o + 3, none⟩ = some (.bool c.oc) ∧
    W.cell? ⟨b, o + 4, none⟩ = some (.int .i64 c.k) ∧ W.cell? ⟨b, o + 5, none⟩ = some (.int .i64 c.n) ∧ W.cell? ⟨b, o + 6, none⟩ = some (.string c.s)
theorem cells7_of {W : World} {b o : Nat} {c : ACol} (h : W.rangeAt b o c.cells) : Cells7 W b o c :=
  ⟨h 0 _ rfl, h 1 _ rfl, h 2 _ rfl, h 3 _ rfl, h 4 _ rfl, h 5 _ rfl, h 6 _ rfl⟩
theorem range_of {W : World} {b o : Nat} {c : ACol} (h : Cells7 W b o c) : W.rangeAt b o c.cells := by
  obtain ⟨h0, h1, h2, h3, h4, h5, h6⟩ := h
  intro j v hv
  match j with
  | 0 => simp [ACol.cells] at hv; subst hv; exact h0
  | 1 => simp [ACol.cells] at hv; subst hv; exact h1
  | 2 => simp [ACol.cells] at hv; subst hv; exact h2
  | 3 => simp [ACol.cells] at hv; subst hv; exact h3
  | 4 => simp [ACol.cells] at hv; subst hv; exact h4
  | 5 => simp [ACol.cells] at hv; subst hv; exact h5
  | 6 => simp [ACol.cells] at hv; subst hv; exact h6
  | j + 7 => simp [ACol.cells] at hv

def total (L : List ACol) : Nat := (L.map ACol.sz).sum

theorem total_next (L : List ACol) (k : Nat) (c : ACol) (h : L[k]? = some c) : total (L.take (k + 1)) = total (L.take k) + c.sz := by
  obtain ⟨hk, rfl⟩ := List.getElem?_eq_some_iff.1 h
  rw [List.take_succ_eq_append_getElem hk]
  unfold total
  rw [List.map_append, List.sum_append]
  simp
theorem total_le (L : List ACol) (k : Nat) : total (L.take k) ≤ total L := by
  have h := congrArg total (List.take_append_drop k L)
  rw [← h]
  unfold total
  rw [List.map_append, List.sum_append]
  omega

set_option maxHeartbeats 1000000 in
theorem sz_cols (a : Option Addr) (cap : Nat) (L : List ACol) (l : Int) (w : World) (hL : ColsAt w a L) (hf : ∀ c ∈ L, c.fit) (hm : L.length ≤ maxLen) (h0 : 0 ≤ l) (h1 : l ≤ 1048576) :
    Calls Try.prog 9 #[.slice a L.length cap, .int .i64 l] w fun e w' => e = .returned (.int .i64 (left l (L.length + total L))) ∧ Below w.heap.size w w' := by
  unfold maxLen at hm
  by_cases ha : (L.length : Int) ≤ l
  · go_enter Try.func9, Try.ntmps9
    go_wp2_with fail
    go_loopw [1, 5] (fun lf i wr => ∃ k : Nat, k ≤ L.length ∧ i = .int .i64 k ∧ lf = .int .i64 (l - L.length - total (L.take k)) ∧ Hid (0 ≤ l - L.length - total (L.take k) ∧ Below w.heap.size w wr)) (fun _ i _ => L.length - (intOf i).toNat)
    case atStart => exact ⟨0, Nat.zero_le _, rfl, by simp [total], ⟨by simp [total]; omega, Below.refl _ _⟩⟩
    case round =>
      obtain ⟨k, hk, rfl, rfl, hH⟩ := hrel
      have hlf := hH.out.1
      by_cases hlt : k < L.length
      · obtain ⟨b, o, hab, hbl, hr⟩ := (hL.keep hH.out.2).at hlt
        have hft := hf _ (List.getElem_mem hlt)
        have hnx := total_next L k _ (List.getElem?_eq_getElem hlt)
        have hle := total_le L (k + 1)
        revert hr hft hnx
        generalize L[k] = c
        intro hr hft hnx
        have hix : ∀ wx, (Instr.indexAt 22 (.slice a L.length cap) (.int .i64 k)).run Try.prog wx = .ok (.pointer (some ⟨b, o + k * 7, none⟩)) wx := fun wx => by
          rw [hab]; exact run_ix _ _ _ _ _ _ _ wx hlt Try.underlying22 (Try.sizeOf33 wx)
        have hld := cells7_of hr
        clear hab hr hL
        unfold ACol.sz at hnx
        generalize total (L.take k) = tk at *
        have hBel := hH.out.2
        clear hH
        by_cases hc : ((c.nm.size + c.s.size : Nat) : Int) ≤ l - L.length - tk
        · have hl' := left_pos hc
          go_wp2_with fail
          refine (sz_col _ _ _ _ _ _ _ _ _ hft.1 hft.2 (by omega) (by omega)).mono ?_
          rintro e w' ⟨rfl, hq⟩
          rw [hl']
          have hn2 : l - L.length - (total (L.take (k + 1)) : Int) = l - L.length - tk - ((c.nm.size + c.s.size : Nat) : Int) := by omega
          have hp : 0 ≤ l - L.length - (total (L.take (k + 1)) : Int) := by omega
          rw [← hn2]
          have hB' := hBel.trans (hq.mono hBel.size)
          clear hl' hn2 hq hBel hnx hle
          have hP : Hid (Below w.heap.size w w') := hB'
          clear hB'
          go_wp2_with fail
          go_roundw
          case rel => exact ⟨k + 1, by omega, by go_num, rfl, ⟨hp, hP.out⟩⟩
          case measure => simp [intOf]; omega
        · have hl' := left_neg hc
          go_wp2_with fail
          refine (sz_col _ _ _ _ _ _ _ _ _ hft.1 hft.2 (by omega) (by omega)).mono ?_
          rintro e w' ⟨rfl, hq⟩
          rw [hl']
          have hl2 := left_neg (l := l) (z := L.length + total L) (by omega)
          have hP : Hid (Below w.heap.size w w') := hBel.trans (hq.mono hBel.size)
          go_wp2_with fail
          go_ret
          rw [hl2]
          exact ⟨rfl, hP.out⟩
      · have hkl : k = L.length := by omega
        subst hkl
        rw [List.take_length] at *
        have hl' := left_pos (l := l) (z := L.length + total L) (by omega)
        go_wp2_with fail
        go_ret
        rw [hl']
        refine ⟨?_, hH.out.2⟩
        rw [show l - ((L.length + total L : Nat) : Int) = l - L.length - total L by omega]
        rfl
  · rw [left_neg (by omega)]
    go_enter Try.func9, Try.ntmps9
    go_wp2_with fail
    go_ret
    exact ⟨rfl, Below.refl _ _⟩

end Go.Proofs.Ytmdmlpijekilhaq
