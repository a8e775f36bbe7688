/- The contracts of laws.markText, markEntryS and heldEntryS, over the seat's translation. -/
import Derived.Test.YtobblnlefhkanaaIxC
import Derived.Test.YtobblnlefhkanaaIxK0
import Derived.Laws.IdiomStrings
namespace Go.Proofs.Ytobblnlefhkanaa
open Go.RowKit

theorem conv_one (W : World) (m : Nat) : ∃ u : UInt8, u = UInt8.ofNat (48 + m % 10) ∧
    (convert 76 9 (.slice (some ⟨W.heap.size, 0, none⟩) 1 1)).run Try.prog (W.alloc (.cells #[.int .u8 (48 + (m : Int) % 10)] 5)) = .ok (.string ⟨#[u]⟩) (W.alloc (.cells #[.int .u8 (48 + (m : Int) % 10)] 5)) := by
  have hb : ((UInt8.ofNat (48 + m % 10)).toNat : Int) = 48 + (m : Int) % 10 := by
    have : (UInt8.ofNat (48 + m % 10)).toNat = 48 + m % 10 := by simp; omega
    omega
  exact ⟨_, rfl, run_convert_bytes_back _ _ _ 5 _ 1 [UInt8.ofNat (48 + m % 10)] Try.underlying76 Try.underlying5 Try.underlying9 (fun j hj => by
    have : j = 0 := by simp at hj; omega
    subst this
    simp only [List.getElem_cons_zero, hb]; simp [Addr.add, go_sem])⟩

set_option maxRecDepth 100000 in
set_option maxHeartbeats 1000000 in
theorem mark_text (n : Nat) (w : World) (h0 : 0 < n) (hn : n ≤ 100000000) :
    Calls Try.prog 39 #[.int .i64 n] w fun e w' => e = .returned (.string (markT n)) ∧ Below w.heap.size w w' := by
  go_enter Try.func39, Try.ntmps39
  go_wp2_with fail
  go_loopw [0, 3] (fun i s wr => ∃ (m : Nat) (t : ByteArray), m + t.size ≤ n ∧ i = .int .i64 m ∧ s = .string t ∧ Hid (mt m t = mt n ⟨#[]⟩ ∧ Below w.heap.size w wr)) (fun i _ _ => (intOf i).toNat)
  case atStart => exact ⟨n, ⟨#[]⟩, Nat.le_refl _, rfl, rfl, rfl, Below.refl _ _⟩
  case round =>
    obtain ⟨m, t, hmt, rfl, rfl, hH⟩ := hrel
    by_cases hm : 0 < m
    · have hm' : (0 : Int) < m := by omega
      obtain ⟨u, hu, hcv⟩ := conv_one wr m
      have hU : Hid (u = UInt8.ofNat (48 + m % 10)) := hu
      have hts : t.size ≤ 100000000 := by omega
      have hmm : m ≤ 100000000 := by omega
      clear hn hu
      go_wp2_with fail
      go_roundw
      case rel =>
        refine ⟨m / 10, ⟨#[u]⟩ ++ t, ?_, ?_, rfl, ?_, hH.out.2.alloc hH.out.2.size _⟩
        · rw [ByteArray.size_append, show (⟨#[u]⟩ : ByteArray).size = 1 from rfl]
          omega
        · go_num
        · rw [hU.out, ← mt_next m t hm]
          exact hH.out.1
      case measure => simp [intOf]; omega
    · have : m = 0 := by omega
      subst this
      go_wp2_with fail
      go_ret
      refine ⟨?_, hH.out.2⟩
      have := hH.out.1
      rw [mt_zero] at this
      subst this
      rfl

/-- Block B holds n entries that may be written; the first i bear marks from k on; nothing else has turned. -/
def Marked (w : World) (B n k i : Nat) (W : World) : Prop :=
  Turn B w W ∧ B < W.heap.size ∧ W.there B 0 (n * 4) ∧ ∀ j, j < i → W.rangeAt B (j * 4) (mkEnt (k + 4 * j)).cells

theorem Marked.next {w : World} {B n k i : Nat} {W W' : World} (h : Marked w B n k i W) (hb : Below W.heap.size W W') : Marked w B n k i W' := by
  obtain ⟨h1, h2, h3, h4⟩ := h
  have hz := hb.size
  exact ⟨h1.next hb, by omega, there_next h3 h2 hb, fun j hj => range_next (h4 j hj) h2 hb⟩

/-- The first two cells of the entry at place i are written. -/
def Two (w : World) (B n k i : Nat) (l : List Value) (W : World) : Prop := Marked w B n k i W ∧ W.rangeAt B (i * 4) l

theorem two_set {w : World} {B n k i : Nat} {W : World} (h : Marked w B n k i W) (hi : i < n) (l : List Value) (hl : l.length = 2) : Two w B n k i l (W.setCells B (i * 4) l) := by
  obtain ⟨h1, h2, h3, h4⟩ := h
  refine ⟨⟨h1.sets _ _, by rw [size_sets]; exact h2, World.there_setCells h3 _ _ _, fun j hj => ?_⟩, ?_⟩
  · refine World.rangeAt_setCells_apart (h4 j hj) _ _ _ (Or.inr (Or.inl ?_))
    have : (mkEnt (k + 4 * j)).cells.length = 4 := rfl
    omega
  · exact World.rangeAt_setCells_same _ _ _ _ (fun j hj => by
      have := h3 (i * 4 + j) (by rw [hl] at hj; omega)
      rwa [Nat.zero_add] at this)

theorem Two.next {w : World} {B n k i : Nat} {l : List Value} {W W' : World} (h : Two w B n k i l W) (hb : Below W.heap.size W W') : Two w B n k i l W' :=
  ⟨h.1.next hb, range_next h.2 h.1.2.1 hb⟩

theorem Two.last {w : World} {B n k i : Nat} {l : List Value} {W : World} {m : List Value} (h : Two w B n k i l W) (hi : i < n) (hl : l.length = 2) (hm : m.length = 2) (hc : (mkEnt (k + 4 * i)).cells = l ++ m) : Marked w B n k (i + 1) (W.setCells B (i * 4 + 2) m) := by
  obtain ⟨⟨h1, h2, h3, h4⟩, h5⟩ := h
  refine ⟨h1.sets _ _, by rw [size_sets]; exact h2, World.there_setCells h3 _ _ _, fun j hj => ?_⟩
  by_cases hji : j = i
  · subst hji
    have hA : (W.setCells B (j * 4 + 2) m).rangeAt B (j * 4) l := World.rangeAt_setCells_apart h5 _ _ _ (Or.inr (Or.inl (by omega)))
    have hB' : (W.setCells B (j * 4 + 2) m).rangeAt B (j * 4 + 2) m := World.rangeAt_setCells_same _ _ _ _ (fun x hx => by
      have := h3 (j * 4 + 2 + x) (by omega)
      rwa [Nat.zero_add] at this)
    rw [hc]
    intro x u hu
    by_cases hx : x < 2
    · rw [List.getElem?_append_left (by omega)] at hu
      exact hA x u hu
    · rw [List.getElem?_append_right (by omega), hl] at hu
      have := hB' (x - 2) u hu
      rwa [show j * 4 + 2 + (x - 2) = j * 4 + x by omega] at this
  · refine World.rangeAt_setCells_apart (h4 j (by omega)) _ _ _ (Or.inr (Or.inl ?_))
    have : (mkEnt (k + 4 * j)).cells.length = 4 := rfl
    omega

theorem mark_text_at (z : Int) (n : Nat) (w : World) (hz : z = n) (h0 : 0 < n) (hn : n ≤ 100000000) :
    Calls Try.prog 39 #[.int .i64 z] w fun e w' => e = .returned (.string (markT n)) ∧ Below w.heap.size w w' := by
  subst hz
  exact mark_text n w h0 hn

set_option maxRecDepth 100000 in
set_option maxHeartbeats 2000000 in
theorem mark_entries (a : Option Addr) (B n cap k : Nat) (w : World) (ha : a = some ⟨B, 0, none⟩ ∨ n = 0) (hB : B < w.heap.size) (ht : w.there B 0 (n * 4)) (hk : 0 < k) (hn : k + 4 * n ≤ 100000000) :
    Calls Try.prog 20 #[.slice a n cap, .int .i64 k] w fun e w' => e = .returned (.int .i64 ((k + 4 * n : Nat) : Int)) ∧ Marked w B n k n w' := by
  go_enter Try.func20, Try.ntmps20
  go_wp2_with fail
  go_loopw [1, 5] (fun kv iv wr => ∃ i : Nat, i ≤ n ∧ iv = .int .i64 i ∧ kv = .int .i64 ((k + 4 * i : Nat) : Int) ∧ Hid (Marked w B n k i wr)) (fun _ iv _ => n - (intOf iv).toNat)
  case atStart => exact ⟨0, Nat.zero_le _, rfl, rfl, ⟨Turn.refl _ _, hB, ht, fun j hj => absurd hj (Nat.not_lt_zero _)⟩⟩
  case round =>
    obtain ⟨i, hi, rfl, rfl, hH⟩ := hrel
    clear hB ht
    by_cases hlt : i < n
    · have hix : ∀ wx, (Instr.indexAt 25 (.slice a n cap) (.int .i64 i)).run Try.prog wx = .ok (.pointer (some ⟨B, i * 4, none⟩)) wx := fun wx =>
        run_ix4o _ _ _ _ _ _ _ wx ha hlt Try.underlying25 (Try.sizeOf38 wx)
      have hlt' : (i : Int) < n := by omega
      obtain ⟨q, hq⟩ : ∃ q, q = k + 4 * i := ⟨_, rfl⟩
      rw [← hq]
      have hQ : Hid (q = k + 4 * i) := hq
      have hq0 : 0 < q := by omega
      have hq1 : q + 4 ≤ 100000000 := by omega
      obtain ⟨x0, x1, x2, x3, hth⟩ := there4_of hH.out.2.2.1 hlt
      clear hq
      go_wp2_with fail
      refine (mark_text_at _ (q + 2) _ (by omega) (by omega) (by omega)).mono ?_
      rintro e w2 ⟨rfl, hb⟩
      have hS : Hid (Two w B n k i [.int .i64 q, .int .i64 ((q : Int) + 1)] w2) := (two_set hH.out hlt _ rfl).next hb
      obtain ⟨y0, y1, y2, y3, hth2⟩ := there4_of hS.out.1.2.2.1 hlt
      clear hH hb hth
      go_wp2_with fail
      go_roundw
      case rel =>
        refine ⟨i + 1, by omega, by go_num, ?_, hS.out.last (m := [.string (markT (q + 2)), .int .i64 ((q : Int) + 1 + 1 + 1)]) hlt rfl rfl (by rw [← hQ.out]; rfl)⟩
        have := hQ.out
        rw [show k + 4 * (i + 1) = q + 4 by omega]
        go_num
      case measure => simp [intOf]; omega
    · have hkl : i = n := by omega
      subst hkl
      go_wp2_with fail
      go_ret
      exact ⟨rfl, hH.out⟩

/-- The four marks from q on lie at an offset of block B in W, and W lies over w. -/
abbrev HM (w : World) (B o q : Nat) (W : World) : Prop :=
  W.cell? ⟨B, o, none⟩ = some (.int .i64 q) ∧ W.cell? ⟨B, o + 1, none⟩ = some (.int .i64 ((q : Int) + 1)) ∧ W.cell? ⟨B, o + 2, none⟩ = some (.string (markT (q + 2))) ∧ W.cell? ⟨B, o + 3, none⟩ = some (.int .i64 ((q : Int) + 1 + 1 + 1)) ∧ B < W.heap.size ∧ Below w.heap.size w W

theorem hm_of {w : World} {B o q : Nat} {W : World} (h : W.rangeAt B o (mkEnt q).cells) (hB : B < W.heap.size) (hb : Below w.heap.size w W) : HM w B o q W :=
  ⟨h 0 _ rfl, h 1 _ rfl, h 2 _ rfl, h 3 _ rfl, hB, hb⟩

theorem hm_next {w : World} {B o q : Nat} {W W' : World} (h : HM w B o q W) (hb : Below W.heap.size W W') : HM w B o q W' := by
  obtain ⟨h0, h1, h2, h3, h7, h8⟩ := h
  have hc := fun x => (bcell hb).1 B x h7
  exact ⟨(hc _).trans h0, (hc _).trans h1, (hc _).trans h2, (hc _).trans h3, Nat.lt_of_lt_of_le h7 hb.size, h8.trans (hb.mono h8.size)⟩

theorem hm_drew {w : World} {B o q : Nat} {W : World} (h : HM w B o q W) : HM w B o q W.drew := hm_next h (Below.refl _ _).drew

set_option maxRecDepth 100000 in
set_option maxHeartbeats 2000000 in
theorem held_entries (a : Option Addr) (B n cap k : Nat) (w : World) (ha : a = some ⟨B, 0, none⟩ ∨ n = 0) (hB : B < w.heap.size) (ht : ∀ j, j < n → w.rangeAt B (j * 4) (mkEnt (k + 4 * j)).cells) (hk : 0 < k) (hn : k + 4 * n ≤ 100000000) :
    Calls Try.prog 21 #[.slice a n cap, .int .i64 k] w fun e w' => e = .returned (.int .i64 ((k + 4 * n : Nat) : Int)) ∧ Below w.heap.size w w' := by
  go_enter Try.func21, Try.ntmps21
  go_wp2_with fail
  go_loopw [1, 5] (fun kv iv wr => ∃ i : Nat, i ≤ n ∧ iv = .int .i64 i ∧ kv = .int .i64 ((k + 4 * i : Nat) : Int) ∧ Hid (Below w.heap.size w wr)) (fun _ iv _ => n - (intOf iv).toNat)
  case atStart => exact ⟨0, Nat.zero_le _, rfl, rfl, Below.refl _ _⟩
  case round =>
    obtain ⟨i, hi, rfl, rfl, hH⟩ := hrel
    by_cases hlt : i < n
    · have hix : ∀ wx, (Instr.indexAt 25 (.slice a n cap) (.int .i64 i)).run Try.prog wx = .ok (.pointer (some ⟨B, i * 4, none⟩)) wx := fun wx =>
        run_ix4o _ _ _ _ _ _ _ wx ha hlt Try.underlying25 (Try.sizeOf38 wx)
      have hlt' : (i : Int) < n := by omega
      obtain ⟨q, hq⟩ : ∃ q, q = k + 4 * i := ⟨_, rfl⟩
      have hE : HM w B (i * 4) q wr := hm_of (range_next (by rw [hq]; exact ht i hlt) hB hH.out) (Nat.lt_of_lt_of_le hB hH.out.size) hH.out
      rw [← hq]
      have hQ : Hid (q = k + 4 * i) := hq
      have hq0 : 0 < q := by omega
      have hq1 : q + 4 ≤ 100000000 := by omega
      clear hq hB ht hH
      go_wp2_with fail
      go_region_held3 (fun W => HM w B (i * 4) q W) (first | assumption | exact hm_drew (by assumption))
        (first
          | (go_at_call 39; refine (mark_text_at _ (q + 2) _ (by omega) (by omega) (by omega)).mono ?_; rintro e w' ⟨rfl, hb⟩; have hN := hm_next (by assumption) hb; clear hb))
      rename_i hLast
      have hP : Hid (HM w B (i * 4) q _) := hLast
      go_wp2_with fail
      go_roundw
      case rel =>
        refine ⟨i + 1, by omega, by go_num, ?_, hP.out.2.2.2.2.2⟩
        have := hQ.out
        rw [show k + 4 * (i + 1) = q + 4 by omega]
        go_num
      case measure => simp [intOf]; omega
    · have hkl : i = n := by omega
      subst hkl
      go_wp2_with fail
      go_ret
      exact ⟨rfl, hH.out⟩

end Go.Proofs.Ytobblnlefhkanaa
