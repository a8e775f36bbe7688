/- The contracts of laws.szLink, szLinkS, szTab, szTabS and szBase, over the seat's translation. -/
import Derived.Test.YteckjdoiimifaaaBsA
import Derived.Test.YteckjdoiimifaaaTsZ
namespace Go.Proofs.Yteckjdoiimifaaa
open Go.RowKit

set_option maxRecDepth 100000 in
set_option maxHeartbeats 1000000 in
theorem sz_link (x : ALnk) (l : Int) (w : World) (hf : x.fit) (h0 : 0 ≤ l) (h1 : l ≤ 1048576) :
    Calls Try.prog 76 #[.agg #[.string x.fr, .string x.co, .string x.tt, .int .i64 x.hw], .int .i64 l] w fun e w' => ∃ z, e = .returned (.int .i64 z) ∧ Rest l z True ∧ Below w.heap.size w w' := by
  have hz1 : x.fr.size ≤ 9223372036854775807 := by have := hf.1; unfold maxLen at this; omega
  have hz2 : x.co.size ≤ 9223372036854775807 := by have := hf.2.1; unfold maxLen at this; omega
  have hz3 : x.tt.size ≤ 9223372036854775807 := by have := hf.2.2; unfold maxLen at this; omega
  by_cases ha : (x.fr.size : Int) ≤ l
  · by_cases hb : (x.co.size : Int) ≤ l - x.fr.size
    · by_cases hc : (x.tt.size : Int) ≤ l - x.fr.size - x.co.size
      · go_enter Try.func76, Try.ntmps76
        go_wp2_with fail
        go_ret
        exact ⟨_, rfl, Or.inr ⟨by omega, by omega, trivial⟩, (Below.refl _ _).alloc (Nat.le_refl _) _⟩
      · go_enter Try.func76, Try.ntmps76
        go_wp2_with fail
        go_ret
        exact ⟨_, rfl, Or.inl rfl, (Below.refl _ _).alloc (Nat.le_refl _) _⟩
    · go_enter Try.func76, Try.ntmps76
      go_wp2_with fail
      go_ret
      exact ⟨_, rfl, Or.inl rfl, (Below.refl _ _).alloc (Nat.le_refl _) _⟩
  · go_enter Try.func76, Try.ntmps76
    go_wp2_with fail
    go_ret
    exact ⟨_, rfl, Or.inl rfl, (Below.refl _ _).alloc (Nat.le_refl _) _⟩

set_option maxRecDepth 100000 in
set_option maxHeartbeats 1000000 in
theorem sz_links (a : Option Addr) (cap : Nat) (L : List ALnk) (l : Int) (w : World) (hL : LnksAt w a L) (hf : ∀ c ∈ L, c.fit) (hm : L.length ≤ maxLen) (h0 : 0 ≤ l) (h1 : l ≤ 1048576) :
    Calls Try.prog 49 #[.slice a L.length cap, .int .i64 l] w fun e w' => ∃ z, e = .returned (.int .i64 z) ∧ Rest l z (L.length ≤ 1048576) ∧ Below w.heap.size w w' := by
  unfold maxLen at hm
  by_cases ha : (L.length : Int) ≤ l
  · go_enter Try.func49, Try.ntmps49
    go_wp2_with fail
    go_loopw [1, 5] (fun lf i wr => ∃ (k : Nat) (z : Int), k ≤ L.length ∧ i = .int .i64 k ∧ lf = .int .i64 z ∧ 0 ≤ z ∧ z ≤ l ∧ Hid (Below w.heap.size w wr)) (fun _ i _ => L.length - (intOf i).toNat)
    case atStart => exact ⟨0, _, Nat.zero_le _, rfl, rfl, by omega, by omega, Below.refl _ _⟩
    case round =>
      obtain ⟨k, z, hk, rfl, rfl, hz0, hzl, hH⟩ := hrel
      by_cases hlt : k < L.length
      · obtain ⟨b, o, hab, hbl, hr⟩ := (hL.keep hH.out).at hlt
        have hft := hf _ (List.getElem_mem hlt)
        revert hr hft
        generalize L[k] = c
        intro hr hft
        have hix : ∀ wx, (Instr.indexAt 44 (.slice a L.length cap) (.int .i64 k)).run Try.prog wx = .ok (.pointer (some ⟨b, o + k * 4, none⟩)) wx := fun wx => by
          rw [hab]; exact run_ixk 4 _ _ _ _ _ _ _ wx hlt Try.underlying44 (Try.sizeOf119 wx)
        have hld := cellsL_of hr
        clear hab hr hL
        go_wp2_with fail
        refine (sz_link c z _ hft hz0 (by omega)).mono ?_
        rintro e w' ⟨z2, rfl, hR, hq⟩
        have hP : Hid (Below w.heap.size w w') := hH.out.trans (hq.mono hH.out.size)
        clear hq hH hld
        rcases hR with rfl | ⟨hy, hyl, _⟩
        · go_wp2_with fail
          go_ret
          exact ⟨_, rfl, Or.inl rfl, hP.out⟩
        · go_wp2_with fail
          go_roundw
          case rel => exact ⟨k + 1, z2, by omega, by go_num, rfl, hy, by omega, hP⟩
          case measure => simp [intOf]; omega
      · have hkl : k = L.length := by omega
        subst hkl
        go_wp2_with fail
        go_ret
        exact ⟨_, rfl, Or.inr ⟨hz0, hzl, by omega⟩, hH.out⟩
  · go_enter Try.func49, Try.ntmps49
    go_wp2_with fail
    go_ret
    exact ⟨_, rfl, Or.inl rfl, Below.refl _ _⟩

set_option maxRecDepth 100000 in
set_option maxHeartbeats 1000000 in
theorem sz_tab (x : ANam) (p : PTab) (l : Int) (w : World) (hT : TabAt w p.a0 p.a1 p.a2 x.t) (hf : x.fit) (h0 : 0 ≤ l) (h1 : l ≤ 1048576) :
    Calls Try.prog 75 #[.agg #[.string x.nm, .slice p.a0 x.t.cols.length p.c0, .slice p.a1 x.t.chgs.length p.c1, .slice p.a2 x.t.rows.length p.c2, .int .i64 x.t.nx], .int .i64 l] w fun e w' => ∃ z, e = .returned (.int .i64 z) ∧ Rest l z x.t.near ∧ Below w.heap.size w w' := by
  have hz1 : x.nm.size ≤ 9223372036854775807 := by have := hf.1; unfold maxLen at this; omega
  have b0 : Hid (Below w.heap.size w (w.alloc (.cells #[.string x.nm, .slice p.a0 x.t.cols.length p.c0, .slice p.a1 x.t.chgs.length p.c1, .slice p.a2 x.t.rows.length p.c2, .int .i64 x.t.nx] 117))) := (Below.refl _ _).alloc (Nat.le_refl _) _
  have HT0 : Hid (TabAt (w.alloc (.cells #[.string x.nm, .slice p.a0 x.t.cols.length p.c0, .slice p.a1 x.t.chgs.length p.c1, .slice p.a2 x.t.rows.length p.c2, .int .i64 x.t.nx] 117)) p.a0 p.a1 p.a2 x.t) := hT.keep b0.out
  clear hT
  by_cases ha : (x.nm.size : Int) ≤ l
  · go_enter Try.func75, Try.ntmps75
    go_wp2_with fail
    refine (sz_table x.t _ _ _ _ _ _ _ _ HT0.out hf.2 (by omega) (by omega)).mono ?_
    rintro e w' ⟨z, rfl, hR, hq⟩
    have hB : Hid (Below w.heap.size w w') := b0.out.trans (hq.mono (by simp))
    clear hq b0 HT0
    rcases hR with rfl | ⟨hz, hzl, hn⟩
    · go_wp2_with fail
      go_ret
      exact ⟨_, rfl, Or.inl rfl, hB.out⟩
    · have hn' : Hid x.t.near := hn
      clear hn
      go_wp2_with fail
      go_ret
      exact ⟨_, rfl, Or.inr ⟨hz, by omega, hn'.out⟩, hB.out⟩
  · go_enter Try.func75, Try.ntmps75
    go_wp2_with fail
    go_ret
    exact ⟨_, rfl, Or.inl rfl, b0.out⟩

set_option maxRecDepth 100000 in
set_option maxHeartbeats 1000000 in
theorem sz_tabs (a : Option Addr) (cap : Nat) (L : List ANam) (l : Int) (w : World) (hL : NamsAt w a L) (hf : ∀ c ∈ L, c.fit) (hm : L.length ≤ maxLen) (h0 : 0 ≤ l) (h1 : l ≤ 1048576) :
    Calls Try.prog 48 #[.slice a L.length cap, .int .i64 l] w fun e w' => ∃ z, e = .returned (.int .i64 z) ∧ Rest l z (L.length ≤ 1048576 ∧ ∀ r ∈ L, r.t.near) ∧ Below w.heap.size w w' := by
  unfold maxLen at hm
  by_cases ha : (L.length : Int) ≤ l
  · go_enter Try.func48, Try.ntmps48
    go_wp2_with fail
    go_loopw [1, 5] (fun lf i wr => ∃ (k : Nat) (z : Int), k ≤ L.length ∧ i = .int .i64 k ∧ lf = .int .i64 z ∧ 0 ≤ z ∧ z ≤ l ∧ Hid ((∀ r ∈ L.take k, r.t.near) ∧ Below w.heap.size w wr)) (fun _ i _ => L.length - (intOf i).toNat)
    case atStart => exact ⟨0, _, Nat.zero_le _, rfl, rfl, by omega, by omega, fun r hr => by simp at hr, Below.refl _ _⟩
    case round =>
      obtain ⟨k, z, hk, rfl, rfl, hz0, hzl, hH⟩ := hrel
      by_cases hlt : k < L.length
      · obtain ⟨b, o, p, hab, hbl, hr, hv⟩ := (hL.keep hH.out.2).at hlt
        have hft := hf _ (List.getElem_mem hlt)
        have htk : L.take (k + 1) = L.take k ++ [L[k]] := List.take_succ_eq_append_getElem hlt
        have HT : Hid (L.take (k + 1) = L.take k ++ [L[k]]) := htk
        clear htk
        revert hr hft hv HT
        generalize L[k] = c
        intro hr hv hft HT
        have hix : ∀ wx, (Instr.indexAt 43 (.slice a L.length cap) (.int .i64 k)).run Try.prog wx = .ok (.pointer (some ⟨b, o + k * 5, none⟩)) wx := fun wx => by
          rw [hab]; exact run_ixk 5 _ _ _ _ _ _ _ wx hlt Try.underlying43 (Try.sizeOf117 wx)
        have hld := cellsN_of hr
        clear hab hr hL
        go_wp2_with fail
        refine (sz_tab c p z _ hv hft hz0 (by omega)).mono ?_
        rintro e w' ⟨z2, rfl, hR, hq⟩
        have hP : Hid ((∀ r ∈ L.take k, r.t.near) ∧ Below w.heap.size w w') := ⟨hH.out.1, hH.out.2.trans (hq.mono hH.out.2.size)⟩
        clear hq hH hld hv
        rcases hR with rfl | ⟨hy, hyl, hcl⟩
        · go_wp2_with fail
          go_ret
          exact ⟨_, rfl, Or.inl rfl, hP.out.2⟩
        · have hcl' : Hid (c.t.near) := hcl
          clear hcl
          go_wp2_with fail
          go_roundw
          case rel =>
            refine ⟨k + 1, z2, by omega, by go_num, rfl, hy, by omega, fun r hr => ?_, hP.out.2⟩
            rw [HT.out] at hr
            rcases List.mem_append.1 hr with hr | hr
            · exact hP.out.1 r hr
            · rw [List.mem_singleton] at hr
              subst hr
              exact hcl'
          case measure => simp [intOf]; omega
      · have hkl : k = L.length := by omega
        subst hkl
        go_wp2_with fail
        go_ret
        refine ⟨_, rfl, Or.inr ⟨hz0, hzl, by omega, fun r hr => hH.out.1 r (by rw [List.take_length]; exact hr)⟩, hH.out.2⟩
  · go_enter Try.func48, Try.ntmps48
    go_wp2_with fail
    go_ret
    exact ⟨_, rfl, Or.inl rfl, Below.refl _ _⟩

/-- A box of a base in W, as it came. -/
abbrev BoxB (B : Nat) (x y : Value) (W : World) : Prop := W.cell? ⟨B, 0, none⟩ = some x ∧ W.cell? ⟨B, 1, none⟩ = some y
theorem boxb_next {B C : Nat} {x y : Value} {W W' : World} (h : BoxB B x y W) (hB : B < C) (hb : Below C W W') : BoxB B x y W' := by
  have hc := fun o => hb.cell (p := ⟨B, o, none⟩) hB
  unfold BoxB
  simp only [hc]
  exact h
theorem boxb_box (w : World) (x y : Value) (t : TypeId) : BoxB w.heap.size x y (w.alloc (.cells #[x, y] t)) := by
  refine ⟨?_, ?_⟩
  all_goals go_simp

set_option maxRecDepth 100000 in
set_option maxHeartbeats 1000000 in
theorem sz_base (x : ABas) (a0 a1 : Option Addr) (c0 c1 : Nat) (l : Int) (w : World) (hT : BasAt w a0 a1 x) (hf : x.fit) (h0 : 0 ≤ l) (h1 : l ≤ 1048576) :
    Calls Try.prog 19 #[.agg #[.slice a0 x.tabs.length c0, .slice a1 x.lnks.length c1], .int .i64 l] w fun e w' => ∃ z, e = .returned (.int .i64 z) ∧ Rest l z x.near ∧ Below w.heap.size w w' := by
  have b0 : Hid (Below w.heap.size w (w.alloc (.cells #[.slice a0 x.tabs.length c0, .slice a1 x.lnks.length c1] 46)) ∧ BoxB w.heap.size (.slice a0 x.tabs.length c0) (.slice a1 x.lnks.length c1) (w.alloc (.cells #[.slice a0 x.tabs.length c0, .slice a1 x.lnks.length c1] 46))) := (⟨(Below.refl _ _).alloc (Nat.le_refl _) _, boxb_box _ _ _ _⟩ : _ ∧ _)
  have HT0 : Hid (BasAt (w.alloc (.cells #[.slice a0 x.tabs.length c0, .slice a1 x.lnks.length c1] 46)) a0 a1 x) := hT.keep b0.out.1
  clear hT
  go_enter Try.func19, Try.ntmps19
  go_wp2_with fail
  refine (sz_tabs _ _ _ _ _ HT0.out.1 hf.1 hf.2.1 h0 h1).mono ?_
  rintro e w1 ⟨z, rfl, hR, hq⟩
  have B1 : Hid (Below w.heap.size w w1) := b0.out.1.trans (hq.mono (by simp))
  have T1 : Hid (BasAt w1 a0 a1 x) := HT0.out.keep hq
  have X1 := boxb_next b0.out.2 (by simp) hq
  clear hq b0 HT0
  rcases hR with rfl | ⟨hz, hzl, hl⟩
  · go_wp2_with fail
    go_ret
    exact ⟨_, rfl, Or.inl rfl, B1.out⟩
  have hl' : Hid (x.tabs.length ≤ 1048576 ∧ ∀ r ∈ x.tabs, r.t.near) := hl
  clear hl
  go_wp2_with fail
  refine (sz_links _ _ _ _ _ T1.out.2 hf.2.2.1 hf.2.2.2 hz (by omega)).mono ?_
  rintro e w2 ⟨y, rfl, hR, hq⟩
  have B2 : Hid (Below w.heap.size w w2) := B1.out.trans (hq.mono B1.out.size)
  clear hq B1 T1 X1
  rcases hR with rfl | ⟨hy, hyl, hk⟩
  · go_wp2_with fail
    go_ret
    exact ⟨_, rfl, Or.inl rfl, B2.out⟩
  have hk' : Hid (x.lnks.length ≤ 1048576) := hk
  clear hk
  go_wp2_with fail
  go_ret
  exact ⟨_, rfl, Or.inr ⟨hy, by omega, hl'.out.1, hl'.out.2, hk'⟩, B2.out⟩

end Go.Proofs.Yteckjdoiimifaaa
