/- Contracts of laws.toVal and laws.szVal, over the seat's translation. -/
import Derived.Test.YtobblnlefhkanaaG02
import Derived.Test.YtobblnlefhkanaaG03
import Derived.Laws.IdiomStrings
import Derived.Test.YtobblnlefhkanaaRows
import Derived.WalkKit
import Derived.WalkSpells
import Derived.WalkLawsBesides
import Derived.Deep.RegionHeld3
namespace Go.Proofs.Ytobblnlefhkanaa
open Go.RowKit

theorem to_val (k n : Int) (s : ByteArray) (w : World) :
    Calls Try.prog 26 #[.agg #[.int .i64 k, .int .i64 n, .string s]] w fun e w' => e = .returned (.agg #[.int .i64 k, .int .i64 n, .string s]) ∧ Below w.heap.size w w' := by
  go_enter Try.func26, Try.ntmps26
  go_wp2
  exact bodyPost_ret (v := .agg #[.int .i64 k, .int .i64 n, .string s]) (by simp [results, Try.results26, go_sem]) rfl ⟨rfl, ((((Below.refl _ _).alloc (Nat.le_refl _) _).alloc (by simp) _).alloc (by simp; omega) _)⟩

theorem sz_big (k n l : Int) (s : ByteArray) (w : World) (hs : s.size ≤ maxLen) (h0 : 0 ≤ l) (h1 : l ≤ 1048576) (h : l < s.size) :
    Calls Try.prog 24 #[.agg #[.int .i64 k, .int .i64 n, .string s], .int .i64 l] w fun e w' => e = .returned (.int .i64 (-1)) ∧ Below w.heap.size w w' := by
  unfold maxLen at hs
  go_enter Try.func24, Try.ntmps24
  go_wp2
  go_ret
  exact ⟨rfl, (Below.refl _ _).alloc (Nat.le_refl _) _⟩

theorem sz_fits (k n l : Int) (s : ByteArray) (w : World) (hs : s.size ≤ maxLen) (h0 : 0 ≤ l) (h1 : l ≤ 1048576) (h : s.size ≤ l) :
    Calls Try.prog 24 #[.agg #[.int .i64 k, .int .i64 n, .string s], .int .i64 l] w fun e w' => e = .returned (.int .i64 (l - s.size)) ∧ Below w.heap.size w w' := by
  unfold maxLen at hs
  go_enter Try.func24, Try.ntmps24
  go_wp2
  go_ret
  exact ⟨rfl, (Below.refl _ _).alloc (Nat.le_refl _) _⟩

end Go.Proofs.Ytobblnlefhkanaa

/- The contracts of laws.toEntry and toEntryS, over the seat's translation. -/
namespace Go.Proofs.Ytobblnlefhkanaa
open Go.RowKit

set_option maxRecDepth 100000 in
set_option maxHeartbeats 1000000 in
theorem to_entry (k n : Int) (s : ByteArray) (id : Int) (w : World) :
    Calls Try.prog 18 #[.agg #[.int .i64 k, .int .i64 n, .string s, .int .i64 id]] w fun e w' => e = .returned (.agg #[.int .i64 k, .int .i64 n, .string s, .int .i64 id]) ∧ Below w.heap.size w w' := by
  go_enter Try.func18, Try.ntmps18
  go_wp2_with fail
  refine (to_val _ _ _ _).mono ?_
  rintro e w' ⟨rfl, hb⟩
  have hO := own4_next (own4_box _ _ _ _ _ _) (by simp) hb
  have hR := own4_next (own4_next (own4_box _ _ _ _ _ _) (by simp) ((Below.refl _ _).alloc (Nat.le_refl _) _)) (by simp) hb
  have hw : Hid (Below w.heap.size w w') := ((((Below.refl w.heap.size w).alloc (Nat.le_refl _) _).alloc (by simp) _).alloc (by simp; omega) _).trans (hb.mono (by simp; omega))
  rw [size_alloc, size_alloc] at hO
  rw [size_alloc] at hR
  have hI := ((((Box.start w [.int .i64 k, .int .i64 n, .string s, .int .i64 id] 32).next ((Below.refl _ _).alloc (Nat.le_refl _) (.cells #[.int .i64 0, .int .i64 0, .string ⟨#[]⟩, .int .i64 0] 38))).next ((Below.refl _ _).alloc (Nat.le_refl _) (.cells #[.int .i64 0, .int .i64 0, .string ⟨#[]⟩, .int .i64 0] 38))).next hb).four
  clear hb
  go_wp2_with fail
  refine bodyPost_ret (v := .agg #[.int .i64 k, .int .i64 n, .string s, .int .i64 id]) (by simp [results, Try.results18, go_sem, hR]) rfl ⟨rfl, ?_⟩
  repeat' (first | refine Below.setCell ?_ (by simp [Nat.add_assoc]) _ | exact hw.out)

set_option maxRecDepth 100000 in
set_option maxHeartbeats 1000000 in
theorem to_entries (a : Option Addr) (cap : Nat) (L : List AEnt) (w : World) (hL : EntsAt w a L) (hm : L.length ≤ 1048576) :
    Calls Try.prog 11 #[.slice a L.length cap] w fun e w' => e = .returned (.slice (some ⟨w.heap.size, 0, none⟩) L.length L.length) ∧ MadeE w w.heap.size L.length L.length L w' := by
  obtain ⟨i0, hi, hz, hsz, hby⟩ := Try.info38
  have hmk : ∀ wx, (Instr.makeSlice 25 (.int .i64 L.length) (.int .i64 L.length)).run Try.prog wx = .ok (.slice (some ⟨wx.heap.size, 0, none⟩) L.length L.length) (wx.alloc (.cells (madeCells #[.int .i64 0, .int .i64 0, .string ⟨#[]⟩, .int .i64 0] (L.length * 4)) 38)) := fun wx => by
    have h := run_make (P := Try.prog) wx 25 38 i0 _ Try.underlying25 hi hz .i64 .i64 L.length L.length (by omega) (by omega) (by have : (i0.bytes : Int) * L.length ≤ 128 * 1048576 := Int.mul_le_mul (by omega) (by omega) (by omega) (by omega); omega) (by omega)
    rw [hsz] at h
    simpa [Value.cells] using h
  clear hi hz hsz hby
  go_enter Try.func11, Try.ntmps11
  go_wp2_with fail
  have hst := MadeE.start w L.length L #[.int .i64 0, .int .i64 0, .string ⟨#[]⟩, .int .i64 0] 38
  go_loopw [4] (fun i wr => ∃ k : Nat, k ≤ L.length ∧ i = .int .i64 k ∧ Hid (MadeE w w.heap.size L.length k L wr)) (fun i _ => L.length - (intOf i).toNat)
  case atStart => exact ⟨0, Nat.zero_le _, rfl, hst⟩
  case round =>
    obtain ⟨k, hk, rfl, hH⟩ := hrel
    clear hst hmk
    by_cases hlt : k < L.length
    · obtain ⟨b, o, hab, hbl, hr⟩ := (hL.keep hH.out.1).at hlt
      have hck := List.getElem?_eq_getElem hlt
      revert hr hck
      generalize L[k] = c
      intro hr hck
      have hix : ∀ wx, (Instr.indexAt 22 (.slice a L.length cap) (.int .i64 k)).run Try.prog wx = .ok (.pointer (some ⟨b, o + k * 4, none⟩)) wx := fun wx => by
        rw [hab]; exact run_ix4 _ _ _ _ _ _ _ wx hlt Try.underlying22 (Try.sizeOf32 wx)
      have hld := cells4_of hr
      have hck' : Hid (L[k]? = some c) := hck
      clear hab hr hL hck
      go_wp2_with fail
      refine (to_entry _ _ _ _ _).mono ?_
      rintro e w' ⟨rfl, hq⟩
      have hM : Hid (MadeE w w.heap.size L.length k L w') := hH.out.keep hq
      obtain ⟨x0, x1, x2, x3, hth⟩ := there4_of hM.out.2.2.1 hlt
      clear hH hq hld
      go_wp2_with fail
      go_roundw
      case rel => exact ⟨k + 1, by omega, by go_num, hM.out.put hlt hck'.out⟩
      case measure => simp [intOf]; omega
    · have hkl : k = L.length := by omega
      subst hkl
      go_wp2_with fail
      go_ret
      exact ⟨rfl, hH.out⟩

end Go.Proofs.Ytobblnlefhkanaa

/- The contracts of laws.markText, markEntryS and heldEntryS, over the seat's translation. -/
namespace Go.Proofs.Ytobblnlefhkanaa
open Go.RowKit

theorem conv_one (W : World) (m : Nat) : ∃ u : UInt8, u = UInt8.ofNat (48 + m % 10) ∧
    (convert 76 9 (.slice (some ⟨W.heap.size, 0, none⟩) 1 1)).run Try.prog (W.alloc (.cells #[.int .u8 (48 + (m : Int) % 10)] 5)) = .ok (.string ⟨#[u]⟩) (W.alloc (.cells #[.int .u8 (48 + (m : Int) % 10)] 5)) := by
  have hb : ((UInt8.ofNat (48 + m % 10)).toNat : Int) = 48 + (m : Int) % 10 := by
    have : (UInt8.ofNat (48 + m % 10)).toNat = 48 + m % 10 := by simp; omega
    omega
  exact ⟨_, rfl, run_convert_bytes_back _ _ _ 5 _ 1 [UInt8.ofNat (48 + m % 10)] Try.underlying76 Try.underlying5 Try.underlying9 (fun j hj => by
    have : j = 0 := by simp at hj; omega
    subst this
    simp only [List.getElem_cons_zero, hb]; simp [Addr.add, go_sem])⟩

set_option maxRecDepth 100000 in
set_option maxHeartbeats 1000000 in
theorem mark_text (n : Nat) (w : World) (h0 : 0 < n) (hn : n ≤ 100000000) :
    Calls Try.prog 39 #[.int .i64 n] w fun e w' => e = .returned (.string (markT n)) ∧ Below w.heap.size w w' := by
  go_enter Try.func39, Try.ntmps39
  go_wp2_with fail
  go_loopw [0, 3] (fun i s wr => ∃ (m : Nat) (t : ByteArray), m + t.size ≤ n ∧ i = .int .i64 m ∧ s = .string t ∧ Hid (mt m t = mt n ⟨#[]⟩ ∧ Below w.heap.size w wr)) (fun i _ _ => (intOf i).toNat)
  case atStart => exact ⟨n, ⟨#[]⟩, Nat.le_refl _, rfl, rfl, rfl, Below.refl _ _⟩
  case round =>
    obtain ⟨m, t, hmt, rfl, rfl, hH⟩ := hrel
    by_cases hm : 0 < m
    · have hm' : (0 : Int) < m := by omega
      obtain ⟨u, hu, hcv⟩ := conv_one wr m
      have hU : Hid (u = UInt8.ofNat (48 + m % 10)) := hu
      have hts : t.size ≤ 100000000 := by omega
      have hmm : m ≤ 100000000 := by omega
      clear hn hu
      go_wp2_with fail
      go_roundw
      case rel =>
        refine ⟨m / 10, ⟨#[u]⟩ ++ t, ?_, ?_, rfl, ?_, hH.out.2.alloc hH.out.2.size _⟩
        · rw [ByteArray.size_append, show (⟨#[u]⟩ : ByteArray).size = 1 from rfl]
          omega
        · go_num
        · rw [hU.out, ← mt_next m t hm]
          exact hH.out.1
      case measure => simp [intOf]; omega
    · have : m = 0 := by omega
      subst this
      go_wp2_with fail
      go_ret
      refine ⟨?_, hH.out.2⟩
      have := hH.out.1
      rw [mt_zero] at this
      subst this
      rfl

/-- Block B holds n entries that may be written; the first i bear marks from k on; nothing else has turned. -/
def Marked (w : World) (B n k i : Nat) (W : World) : Prop :=
  Turn B w W ∧ B < W.heap.size ∧ W.there B 0 (n * 4) ∧ ∀ j, j < i → W.rangeAt B (j * 4) (mkEnt (k + 4 * j)).cells

theorem Marked.next {w : World} {B n k i : Nat} {W W' : World} (h : Marked w B n k i W) (hb : Below W.heap.size W W') : Marked w B n k i W' := by
  obtain ⟨h1, h2, h3, h4⟩ := h
  have hz := hb.size
  exact ⟨h1.next hb, by omega, there_next h3 h2 hb, fun j hj => range_next (h4 j hj) h2 hb⟩

/-- The first two cells of the entry at place i are written. -/
def Two (w : World) (B n k i : Nat) (l : List Value) (W : World) : Prop := Marked w B n k i W ∧ W.rangeAt B (i * 4) l

theorem two_set {w : World} {B n k i : Nat} {W : World} (h : Marked w B n k i W) (hi : i < n) (l : List Value) (hl : l.length = 2) : Two w B n k i l (W.setCells B (i * 4) l) := by
  obtain ⟨h1, h2, h3, h4⟩ := h
  refine ⟨⟨h1.sets _ _, by rw [size_sets]; exact h2, World.there_setCells h3 _ _ _, fun j hj => ?_⟩, ?_⟩
  · refine World.rangeAt_setCells_apart (h4 j hj) _ _ _ (Or.inr (Or.inl ?_))
    have : (mkEnt (k + 4 * j)).cells.length = 4 := rfl
    omega
  · exact World.rangeAt_setCells_same _ _ _ _ (fun j hj => by
      have := h3 (i * 4 + j) (by rw [hl] at hj; omega)
      rwa [Nat.zero_add] at this)

theorem Two.next {w : World} {B n k i : Nat} {l : List Value} {W W' : World} (h : Two w B n k i l W) (hb : Below W.heap.size W W') : Two w B n k i l W' :=
  ⟨h.1.next hb, range_next h.2 h.1.2.1 hb⟩

theorem Two.last {w : World} {B n k i : Nat} {l : List Value} {W : World} {m : List Value} (h : Two w B n k i l W) (hi : i < n) (hl : l.length = 2) (hm : m.length = 2) (hc : (mkEnt (k + 4 * i)).cells = l ++ m) : Marked w B n k (i + 1) (W.setCells B (i * 4 + 2) m) := by
  obtain ⟨⟨h1, h2, h3, h4⟩, h5⟩ := h
  refine ⟨h1.sets _ _, by rw [size_sets]; exact h2, World.there_setCells h3 _ _ _, fun j hj => ?_⟩
  by_cases hji : j = i
  · subst hji
    have hA : (W.setCells B (j * 4 + 2) m).rangeAt B (j * 4) l := World.rangeAt_setCells_apart h5 _ _ _ (Or.inr (Or.inl (by omega)))
    have hB' : (W.setCells B (j * 4 + 2) m).rangeAt B (j * 4 + 2) m := World.rangeAt_setCells_same _ _ _ _ (fun x hx => by
      have := h3 (j * 4 + 2 + x) (by omega)
      rwa [Nat.zero_add] at this)
    rw [hc]
    intro x u hu
    by_cases hx : x < 2
    · rw [List.getElem?_append_left (by omega)] at hu
      exact hA x u hu
    · rw [List.getElem?_append_right (by omega), hl] at hu
      have := hB' (x - 2) u hu
      rwa [show j * 4 + 2 + (x - 2) = j * 4 + x by omega] at this
  · refine World.rangeAt_setCells_apart (h4 j (by omega)) _ _ _ (Or.inr (Or.inl ?_))
    have : (mkEnt (k + 4 * j)).cells.length = 4 := rfl
    omega

theorem mark_text_at (z : Int) (n : Nat) (w : World) (hz : z = n) (h0 : 0 < n) (hn : n ≤ 100000000) :
    Calls Try.prog 39 #[.int .i64 z] w fun e w' => e = .returned (.string (markT n)) ∧ Below w.heap.size w w' := by
  subst hz
  exact mark_text n w h0 hn

set_option maxRecDepth 100000 in
set_option maxHeartbeats 2000000 in
theorem mark_entries (a : Option Addr) (B n cap k : Nat) (w : World) (ha : a = some ⟨B, 0, none⟩ ∨ n = 0) (hB : B < w.heap.size) (ht : w.there B 0 (n * 4)) (hk : 0 < k) (hn : k + 4 * n ≤ 100000000) :
    Calls Try.prog 20 #[.slice a n cap, .int .i64 k] w fun e w' => e = .returned (.int .i64 ((k + 4 * n : Nat) : Int)) ∧ Marked w B n k n w' := by
  go_enter Try.func20, Try.ntmps20
  go_wp2_with fail
  go_loopw [1, 5] (fun kv iv wr => ∃ i : Nat, i ≤ n ∧ iv = .int .i64 i ∧ kv = .int .i64 ((k + 4 * i : Nat) : Int) ∧ Hid (Marked w B n k i wr)) (fun _ iv _ => n - (intOf iv).toNat)
  case atStart => exact ⟨0, Nat.zero_le _, rfl, rfl, ⟨Turn.refl _ _, hB, ht, fun j hj => absurd hj (Nat.not_lt_zero _)⟩⟩
  case round =>
    obtain ⟨i, hi, rfl, rfl, hH⟩ := hrel
    clear hB ht
    by_cases hlt : i < n
    · have hix : ∀ wx, (Instr.indexAt 25 (.slice a n cap) (.int .i64 i)).run Try.prog wx = .ok (.pointer (some ⟨B, i * 4, none⟩)) wx := fun wx =>
        run_ix4o _ _ _ _ _ _ _ wx ha hlt Try.underlying25 (Try.sizeOf38 wx)
      have hlt' : (i : Int) < n := by omega
      obtain ⟨q, hq⟩ : ∃ q, q = k + 4 * i := ⟨_, rfl⟩
      rw [← hq]
      have hQ : Hid (q = k + 4 * i) := hq
      have hq0 : 0 < q := by omega
      have hq1 : q + 4 ≤ 100000000 := by omega
      obtain ⟨x0, x1, x2, x3, hth⟩ := there4_of hH.out.2.2.1 hlt
      clear hq
      go_wp2_with fail
      refine (mark_text_at _ (q + 2) _ (by omega) (by omega) (by omega)).mono ?_
      rintro e w2 ⟨rfl, hb⟩
      have hS : Hid (Two w B n k i [.int .i64 q, .int .i64 ((q : Int) + 1)] w2) := (two_set hH.out hlt _ rfl).next hb
      obtain ⟨y0, y1, y2, y3, hth2⟩ := there4_of hS.out.1.2.2.1 hlt
      clear hH hb hth
      go_wp2_with fail
      go_roundw
      case rel =>
        refine ⟨i + 1, by omega, by go_num, ?_, hS.out.last (m := [.string (markT (q + 2)), .int .i64 ((q : Int) + 1 + 1 + 1)]) hlt rfl rfl (by rw [← hQ.out]; rfl)⟩
        have := hQ.out
        rw [show k + 4 * (i + 1) = q + 4 by omega]
        go_num
      case measure => simp [intOf]; omega
    · have hkl : i = n := by omega
      subst hkl
      go_wp2_with fail
      go_ret
      exact ⟨rfl, hH.out⟩

/-- The four marks from q on lie at an offset of block B in W, and W lies over w. -/
abbrev HM (w : World) (B o q : Nat) (W : World) : Prop :=
  W.cell? ⟨B, o, none⟩ = some (.int .i64 q) ∧ W.cell? ⟨B, o + 1, none⟩ = some (.int .i64 ((q : Int) + 1)) ∧ W.cell? ⟨B, o + 2, none⟩ = some (.string (markT (q + 2))) ∧ W.cell? ⟨B, o + 3, none⟩ = some (.int .i64 ((q : Int) + 1 + 1 + 1)) ∧ B < W.heap.size ∧ Below w.heap.size w W

theorem hm_of {w : World} {B o q : Nat} {W : World} (h : W.rangeAt B o (mkEnt q).cells) (hB : B < W.heap.size) (hb : Below w.heap.size w W) : HM w B o q W :=
  ⟨h 0 _ rfl, h 1 _ rfl, h 2 _ rfl, h 3 _ rfl, hB, hb⟩

theorem hm_next {w : World} {B o q : Nat} {W W' : World} (h : HM w B o q W) (hb : Below W.heap.size W W') : HM w B o q W' := by
  obtain ⟨h0, h1, h2, h3, h7, h8⟩ := h
  have hc := fun x => (bcell hb).1 B x h7
  exact ⟨(hc _).trans h0, (hc _).trans h1, (hc _).trans h2, (hc _).trans h3, Nat.lt_of_lt_of_le h7 hb.size, h8.trans (hb.mono h8.size)⟩

theorem hm_drew {w : World} {B o q : Nat} {W : World} (h : HM w B o q W) : HM w B o q W.drew := hm_next h (Below.refl _ _).drew

set_option maxRecDepth 100000 in
set_option maxHeartbeats 2000000 in
theorem held_entries (a : Option Addr) (B n cap k : Nat) (w : World) (ha : a = some ⟨B, 0, none⟩ ∨ n = 0) (hB : B < w.heap.size) (ht : ∀ j, j < n → w.rangeAt B (j * 4) (mkEnt (k + 4 * j)).cells) (hk : 0 < k) (hn : k + 4 * n ≤ 100000000) :
    Calls Try.prog 21 #[.slice a n cap, .int .i64 k] w fun e w' => e = .returned (.int .i64 ((k + 4 * n : Nat) : Int)) ∧ Below w.heap.size w w' := by
  go_enter Try.func21, Try.ntmps21
  go_wp2_with fail
  go_loopw [1, 5] (fun kv iv wr => ∃ i : Nat, i ≤ n ∧ iv = .int .i64 i ∧ kv = .int .i64 ((k + 4 * i : Nat) : Int) ∧ Hid (Below w.heap.size w wr)) (fun _ iv _ => n - (intOf iv).toNat)
  case atStart => exact ⟨0, Nat.zero_le _, rfl, rfl, Below.refl _ _⟩
  case round =>
    obtain ⟨i, hi, rfl, rfl, hH⟩ := hrel
    by_cases hlt : i < n
    · have hix : ∀ wx, (Instr.indexAt 25 (.slice a n cap) (.int .i64 i)).run Try.prog wx = .ok (.pointer (some ⟨B, i * 4, none⟩)) wx := fun wx =>
        run_ix4o _ _ _ _ _ _ _ wx ha hlt Try.underlying25 (Try.sizeOf38 wx)
      have hlt' : (i : Int) < n := by omega
      obtain ⟨q, hq⟩ : ∃ q, q = k + 4 * i := ⟨_, rfl⟩
      have hE : HM w B (i * 4) q wr := hm_of (range_next (by rw [hq]; exact ht i hlt) hB hH.out) (Nat.lt_of_lt_of_le hB hH.out.size) hH.out
      rw [← hq]
      have hQ : Hid (q = k + 4 * i) := hq
      have hq0 : 0 < q := by omega
      have hq1 : q + 4 ≤ 100000000 := by omega
      clear hq hB ht hH
      go_wp2_with fail
      go_region_held3 (fun W => HM w B (i * 4) q W) (first | assumption | exact hm_drew (by assumption))
        (first
          | (go_at_call 39; refine (mark_text_at _ (q + 2) _ (by omega) (by omega) (by omega)).mono ?_; rintro e w' ⟨rfl, hb⟩; have hN := hm_next (by assumption) hb; clear hb))
      rename_i hLast
      have hP : Hid (HM w B (i * 4) q _) := hLast
      go_wp2_with fail
      go_roundw
      case rel =>
        refine ⟨i + 1, by omega, by go_num, ?_, hP.out.2.2.2.2.2⟩
        have := hQ.out
        rw [show k + 4 * (i + 1) = q + 4 by omega]
        go_num
      case measure => simp [intOf]; omega
    · have hkl : i = n := by omega
      subst hkl
      go_wp2_with fail
      go_ret
      exact ⟨rfl, hH.out⟩

end Go.Proofs.Ytobblnlefhkanaa

/- Rows of ints: compared, marked, held. Over the seat's translation. -/
namespace Go.Proofs.Ytobblnlefhkanaa
open Go.RowKit

set_option maxRecDepth 100000 in
set_option maxHeartbeats 1000000 in
theorem eq_ints (a b : Option Addr) (cap cap' : Nat) (L : List Int) (w : World) (ha : IntsAt w a L) (hb : IntsAt w b L) (hm : L.length ≤ maxLen) :
    Calls Try.prog 28 #[.slice a L.length cap, .slice b L.length cap'] w fun e w' => e = .returned (.bool true) ∧ Below w.heap.size w w' := by
  unfold maxLen at hm
  go_enter Try.func28, Try.ntmps28
  go_wp2_with fail
  go_loopw [5] (fun i wr => ∃ k : Nat, k ≤ L.length ∧ i = .int .i64 k ∧ Hid (Below w.heap.size w wr)) (fun i _ => L.length - (intOf i).toNat)
  case atStart => exact ⟨0, Nat.zero_le _, rfl, Below.refl _ _⟩
  case round =>
    obtain ⟨k, hk, rfl, hH⟩ := hrel
    by_cases hlt : k < L.length
    · obtain ⟨b1, o1, hab1, hbl1, hr1⟩ := (ha.keep hH.out).at hlt
      obtain ⟨b2, o2, hab2, hbl2, hr2⟩ := (hb.keep hH.out).at hlt
      revert hr1 hr2
      generalize L[k] = c
      intro hr1 hr2
      have hix : ∀ wx, (Instr.indexAt 43 (.slice a L.length cap) (.int .i64 k)).run Try.prog wx = .ok (.pointer (some ⟨b1, o1 + k, none⟩)) wx := fun wx => by
        rw [hab1]; exact run_ix1 _ _ _ _ _ _ _ wx hlt Try.underlying43 (Try.sizeOf3 wx)
      have hiy : ∀ wx, (Instr.indexAt 43 (.slice b L.length cap') (.int .i64 k)).run Try.prog wx = .ok (.pointer (some ⟨b2, o2 + k, none⟩)) wx := fun wx => by
        rw [hab2]; exact run_ix1 _ _ _ _ _ _ _ wx hlt Try.underlying43 (Try.sizeOf3 wx)
      clear hab1 hab2 ha hb hbl1 hbl2
      go_wp2_with fail
      go_quiet (fail)
      have hP : Hid (Below w.heap.size w (wr.drewN nq)) := hH.out.trans (quiet_below _ _ _)
      go_wp2_with fail
      go_roundw
      case rel => exact ⟨k + 1, by omega, by go_num, hP⟩
      case measure => simp [intOf]; omega
    · have hkl : k = L.length := by omega
      subst hkl
      go_wp2_with fail
      go_ret
      exact ⟨rfl, hH.out⟩

set_option maxRecDepth 100000 in
set_option maxHeartbeats 1000000 in
theorem mark_ints (a : Option Addr) (B n cap k : Nat) (w : World) (ha : a = some ⟨B, 0, none⟩ ∨ n = 0) (hB : B < w.heap.size) (ht : w.there B 0 n) (hn : k + n ≤ 100000000) :
    Calls Try.prog 29 #[.slice a n cap, .int .i64 k] w fun e w' => e = .returned (.int .i64 ((k + n : Nat) : Int)) ∧ MarkedI w B n k n w' := by
  go_enter Try.func29, Try.ntmps29
  go_wp2_with fail
  go_loopw [1, 5] (fun kv iv wr => ∃ i : Nat, i ≤ n ∧ iv = .int .i64 i ∧ kv = .int .i64 ((k + i : Nat) : Int) ∧ Hid (MarkedI w B n k i wr)) (fun _ iv _ => n - (intOf iv).toNat)
  case atStart => exact ⟨0, Nat.zero_le _, rfl, rfl, ⟨Turn.refl _ _, hB, ht, fun j hj => absurd hj (Nat.not_lt_zero _)⟩⟩
  case round =>
    obtain ⟨i, hi, rfl, rfl, hH⟩ := hrel
    clear hB ht
    by_cases hlt : i < n
    · have hix : ∀ wx, (Instr.indexAt 43 (.slice a n cap) (.int .i64 i)).run Try.prog wx = .ok (.pointer (some ⟨B, i, none⟩)) wx := fun wx =>
        run_ix1o _ _ _ _ _ _ _ wx ha hlt Try.underlying43 (Try.sizeOf3 wx)
      have hlt' : (i : Int) < n := by omega
      obtain ⟨x0, hx0, hx1⟩ := there1_of hH.out.2.2.1 hlt
      obtain ⟨q, hq⟩ : ∃ q, q = k + i := ⟨_, rfl⟩
      have hS : Hid (MarkedI w B n k (i + 1) (wr.setCell ⟨B, i, none⟩ (.int .i64 (q : Int)))) := by rw [hq]; exact hH.out.set hlt
      rw [← hq]
      have hQ : Hid (q = k + i) := hq
      have hq1 : q + 1 ≤ 100000000 := by omega
      clear hq hH
      go_wp2_with fail
      go_roundw
      case rel =>
        refine ⟨i + 1, by omega, by go_num, ?_, hS.out⟩
        have := hQ.out
        rw [show k + (i + 1) = q + 1 by omega]
        go_num
      case measure => simp [intOf]; omega
    · have hkl : i = n := by omega
      subst hkl
      go_wp2_with fail
      go_ret
      exact ⟨rfl, hH.out⟩

set_option maxRecDepth 100000 in
set_option maxHeartbeats 1000000 in
theorem held_ints (a : Option Addr) (B n cap k : Nat) (w : World) (ha : a = some ⟨B, 0, none⟩ ∨ n = 0) (hB : B < w.heap.size) (ht : ∀ j, j < n → w.cell? ⟨B, j, none⟩ = some (.int .i64 ((k + j : Nat) : Int))) (hn : k + n ≤ 100000000) :
    Calls Try.prog 30 #[.slice a n cap, .int .i64 k] w fun e w' => e = .returned (.int .i64 ((k + n : Nat) : Int)) ∧ Below w.heap.size w w' := by
  go_enter Try.func30, Try.ntmps30
  go_wp2_with fail
  go_loopw [1, 5] (fun kv iv wr => ∃ i : Nat, i ≤ n ∧ iv = .int .i64 i ∧ kv = .int .i64 ((k + i : Nat) : Int) ∧ Hid (Below w.heap.size w wr)) (fun _ iv _ => n - (intOf iv).toNat)
  case atStart => exact ⟨0, Nat.zero_le _, rfl, rfl, Below.refl _ _⟩
  case round =>
    obtain ⟨i, hi, rfl, rfl, hH⟩ := hrel
    by_cases hlt : i < n
    · have hix : ∀ wx, (Instr.indexAt 43 (.slice a n cap) (.int .i64 i)).run Try.prog wx = .ok (.pointer (some ⟨B, i, none⟩)) wx := fun wx =>
        run_ix1o _ _ _ _ _ _ _ wx ha hlt Try.underlying43 (Try.sizeOf3 wx)
      have hlt' : (i : Int) < n := by omega
      have hc : wr.cell? ⟨B, i, none⟩ = some (.int .i64 ((k + i : Nat) : Int)) := by rw [(bcell hH.out).1 _ _ hB]; exact ht i hlt
      obtain ⟨q, hq⟩ : ∃ q, q = k + i := ⟨_, rfl⟩
      rw [← hq] at hc ⊢
      have hQ : Hid (q = k + i) := hq
      have hq1 : q + 1 ≤ 100000000 := by omega
      clear hq hB ht
      go_wp2_with fail
      go_roundw
      case rel =>
        refine ⟨i + 1, by omega, by go_num, ?_, hH.out⟩
        have := hQ.out
        rw [show k + (i + 1) = q + 1 by omega]
        go_num
      case measure => simp [intOf]; omega
    · have hkl : i = n := by omega
      subst hkl
      go_wp2_with fail
      go_ret
      exact ⟨rfl, hH.out⟩

end Go.Proofs.Ytobblnlefhkanaa

/- Contracts of cmp.isNaN, cmp.Compare, cmp.Or at int and string, over the seat's translation. -/
namespace Go.Proofs.Ytobblnlefhkanaa
open Go.RowKit

theorem ret_int {k : IntKind} {a b : Int} (h : a = b) : Ending.returned (.int k a) = .returned (.int k b) := by rw [h]

theorem nan_int (a : Int) (w : World) : Calls Try.prog 68 #[.int .i64 a] w fun e w' => e = .returned (.bool false) ∧ w' = w := by
  go_enter Try.func68, Try.ntmps68
  go_wp2
  go_ret
  simp

theorem nan_str (s : ByteArray) (w : World) : Calls Try.prog 70 #[.string s] w fun e w' => e = .returned (.bool false) ∧ w' = w := by
  go_enter Try.func70, Try.ntmps70
  go_wp2
  go_ret
  simp

def cmpI (x y : Int) : Int := if x < y then -1 else if y < x then 1 else 0
def cmpS (s t : ByteArray) : Int := if Op.bytesLess s.toList t.toList then -1 else if (!Op.bytesLess s.toList t.toList && !(s.toList == t.toList)) then 1 else 0

theorem cmp_int (a b : Int) (w : World) : Calls Try.prog 60 #[.int .i64 a, .int .i64 b] w fun e w' => e = .returned (.int .i64 (cmpI a b)) ∧ w' = w := by
  go_enter Try.func60, Try.ntmps60
  go_wp2_with (go_at_call 68; refine (nan_int _ _).mono ?_; rintro e w' ⟨rfl, rfl⟩)
  · go_ret
    simp_all [cmpI]
  · go_ret
    simp_all [cmpI]
  · go_ret
    refine ⟨ret_int ?_, rfl⟩
    unfold cmpI
    rw [if_neg (by omega), if_neg (by omega)]

theorem cmp_str (s t : ByteArray) (w : World) : Calls Try.prog 67 #[.string s, .string t] w fun e w' => e = .returned (.int .i64 (cmpS s t)) ∧ w' = w := by
  go_enter Try.func67, Try.ntmps67
  go_wp2_with (go_at_call 70; refine (nan_str _ _).mono ?_; rintro e w' ⟨rfl, rfl⟩)
  all_goals
    go_ret
    simp_all [cmpS]

def orI (x y z : Int) : Int := if x = 0 then (if y = 0 then z else y) else x

theorem or_three (x y z : Int) (g : Nat) (w : World) (h0 : w.cell? ⟨g, 0, none⟩ = some (.int .i64 x)) (h1 : w.cell? ⟨g, 1, none⟩ = some (.int .i64 y)) (h2 : w.cell? ⟨g, 2, none⟩ = some (.int .i64 z)) :
    Calls Try.prog 58 #[.slice (some ⟨g, 0, none⟩) 3 3] w fun e w' => e = .returned (.int .i64 (orI x y z)) ∧ w' = w := by
  go_enter Try.func58, Try.ntmps58
  go_wp2
  go_loop [5, 8] (fun _ i => ∃ k : Nat, k ≤ 3 ∧ i = .int .i64 k ∧ (1 ≤ k → x = 0) ∧ (2 ≤ k → y = 0) ∧ (3 ≤ k → z = 0)) (fun _ i => 3 - (intOf i).toNat)
  case atStart => exact ⟨0, Nat.zero_le _, rfl, by omega, by omega, by omega⟩
  case round =>
    obtain ⟨k, hk, rfl, kx, ky, kz⟩ := hrel
    have hh : k = 0 ∨ k = 1 ∨ k = 2 ∨ k = 3 := by omega
    rcases hh with rfl | rfl | rfl | rfl
    · clear kx ky kz
      go_wp2
      · go_ret
        refine ⟨ret_int ?_, rfl⟩
        have hx : ¬ x = 0 := by simp_all
        simp [orI, hx]
      · have hx : x = 0 := by simp_all
        go_round
        case rel => exact ⟨1, by omega, rfl, fun _ => hx, by omega, by omega⟩
        case measure => simp [intOf]
    · have hx := kx (by omega)
      clear kx ky kz
      go_wp2
      · go_ret
        refine ⟨ret_int ?_, rfl⟩
        have hy : ¬ y = 0 := by simp_all
        simp [orI, hy]
      · have hy : y = 0 := by simp_all
        go_round
        case rel => exact ⟨2, by omega, rfl, fun _ => hx, fun _ => hy, by omega⟩
        case measure => simp [intOf]
    · have hx := kx (by omega)
      have hy := ky (by omega)
      clear kx ky kz
      go_wp2
      · go_ret
        refine ⟨ret_int ?_, rfl⟩
        simp [orI]
      · have hz : z = 0 := by simp_all
        go_round
        case rel => exact ⟨3, by omega, rfl, fun _ => hx, fun _ => hy, fun _ => hz⟩
        case measure => simp [intOf]
    · have hx := kx (by omega)
      have hy := ky (by omega)
      have hz := kz (by omega)
      clear kx ky kz
      go_wp2
      go_ret
      exact ⟨ret_int (by simp [orI]), rfl⟩

end Go.Proofs.Ytobblnlefhkanaa
