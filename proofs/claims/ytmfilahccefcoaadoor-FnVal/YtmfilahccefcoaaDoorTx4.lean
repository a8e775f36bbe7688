/- The walk of laws.FnVal, over the seat's translation; the table of powers of ten is as the program's text lays it. -/
import Derived.Test.YtmfilahccefcoaaDoorTx2
import Derived.Test.YtmfilahccefcoaaDoorTx3
import Derived.Test.YtmfilahccefcoaaDoorOk6
import Derived.Deep.RegionHeld3
import Derived.Deep.DeepCutAuto
namespace Go.Proofs.YtmfilahccefcoaaDoor
open Go.RowKit

theorem read_as {t s : ByteArray} {k n : Int} {b : Bool} (w : World) (ht : t.size ≤ maxLen) (htab : Lib.TabIs Tryd.prog w "internal/strconv.uint64pow10" .u64 Lib.pow10Tab) (h : readV t.data.toList = (k, n, s.data.toList, b)) :
    Calls Tryd.prog 7 #[.string t] w fun e w' => e = .returned (.tuple #[.agg #[.int .i64 k, .int .i64 n, .string s], .bool b]) ∧ Below w.heap.size w w' := by
  have := impl_read t w ht htab k n s.data.toList b h
  rw [bytes_eta] at this
  exact this
theorem sread_as {t s : ByteArray} {k n : Int} {b : Bool} (w : World) (ht : t.size ≤ maxLen) (h : readV t.data.toList = (k, n, s.data.toList, b)) :
    Calls Tryd.prog 12 #[.string t] w fun e w' => e = .returned (.tuple #[.agg #[.int .i64 k, .int .i64 n, .string s], .bool b]) ∧ Below w.heap.size w w' := by
  have := spec_read t w ht k n s.data.toList b h
  rw [bytes_eta] at this
  exact this
theorem ok_size {k n : Int} {s : ByteArray} (h : valOk k n s = true) : s.size ≤ maxLen := by
  have h4 : s.size ≤ 4 := by
    rcases ok_kind h with rfl | rfl | rfl
    · rw [(ok_none h).2]; decide
    · rw [(ok_num h).1]; decide
    · have := (ok_text h).2
      simp [textOk] at this
      exact this.2
  unfold maxLen
  omega
theorem readV_bytes (l : List UInt8) : ∃ (k n : Int) (s : ByteArray) (b : Bool), readV l = (k, n, s.data.toList, b) := ⟨(readV l).1, (readV l).2.1, ⟨(readV l).2.2.1.toArray⟩, (readV l).2.2.2, by simp⟩
theorem text_is {k n : Int} {s y : ByteArray} (w : World) (hs : s.size ≤ maxLen) (htab : Lib.TabIs Tryd.prog w "internal/strconv.uint64pow10" .u64 Lib.pow10Tab) (h : y.data.toList = textV k n s) :
    Calls Tryd.prog 6 #[.agg #[.int .i64 k, .int .i64 n, .string s]] w fun e w' => e = .returned (.string y) ∧ Below w.heap.size w w' := by
  have := impl_text k n s w hs htab
  rw [← h, bytes_eta] at this
  exact this
theorem stext_is {k n : Int} {s y : ByteArray} (w : World) (hs : s.size ≤ maxLen) (h : y.data.toList = textV k n s) :
    Calls Tryd.prog 8 #[.agg #[.int .i64 k, .int .i64 n, .string s]] w fun e w' => e = .returned (.string y) ∧ Below w.heap.size w w' := by
  have := spec_text k n s w hs
  rw [← h, bytes_eta] at this
  exact this
theorem ok_is {k n : Int} {s : ByteArray} {p : Bool} (w : World) (hs : s.size ≤ maxLen) (h : valOk k n s = p) :
    Calls Tryd.prog 9 #[.agg #[.int .i64 k, .int .i64 n, .string s]] w fun e w' => e = .returned (.bool p) ∧ Below w.heap.size w w' := by
  have := impl_ok k n s w hs
  rw [h] at this
  exact this
theorem sok_is {k n : Int} {s : ByteArray} {p : Bool} (w : World) (hs : s.size ≤ maxLen) (h : valOk k n s = p) :
    Calls Tryd.prog 10 #[.agg #[.int .i64 k, .int .i64 n, .string s]] w fun e w' => e = .returned (.bool p) ∧ Below w.heap.size w w' := by
  have := spec_ok k n s w hs
  rw [h] at this
  exact this

/-- Two boxes at A and X hold two values in W, and W lies over w. -/
abbrev Duo (w : World) (A X : Nat) (k1 n1 : Int) (s1 : ByteArray) (k2 n2 : Int) (s2 : ByteArray) (W : World) : Prop :=
  W.cell? ⟨A, 0, none⟩ = some (.int .i64 k1) ∧ W.cell? ⟨A, 1, none⟩ = some (.int .i64 n1) ∧ W.cell? ⟨A, 2, none⟩ = some (.string s1) ∧
  W.cell? ⟨X, 0, none⟩ = some (.int .i64 k2) ∧ W.cell? ⟨X, 1, none⟩ = some (.int .i64 n2) ∧ W.cell? ⟨X, 2, none⟩ = some (.string s2) ∧ A < W.heap.size ∧ X < W.heap.size ∧ Below w.heap.size w W
theorem duo_next {w : World} {A X : Nat} {k1 n1 : Int} {s1 : ByteArray} {k2 n2 : Int} {s2 : ByteArray} {W W' : World} (h : Duo w A X k1 n1 s1 k2 n2 s2 W) (hb : Below W.heap.size W W') : Duo w A X k1 n1 s1 k2 n2 s2 W' := by
  obtain ⟨a, b, c, d, e, f, g, g', i⟩ := h
  have hc := (bcell hb).1
  have hz := hb.size
  have hi := i.size
  exact ⟨by rw [hc _ _ (by omega)]; exact a, by rw [hc _ _ (by omega)]; exact b, by rw [hc _ _ (by omega)]; exact c, by rw [hc _ _ (by omega)]; exact d, by rw [hc _ _ (by omega)]; exact e, by rw [hc _ _ (by omega)]; exact f, by omega, by omega, i.trans (hb.mono (by omega))⟩
theorem duo_drew {w : World} {A X : Nat} {k1 n1 : Int} {s1 : ByteArray} {k2 n2 : Int} {s2 : ByteArray} {W : World} (h : Duo w A X k1 n1 s1 k2 n2 s2 W) : Duo w A X k1 n1 s1 k2 n2 s2 W.drew :=
  duo_next h (Below.refl _ _).drew
theorem duo_new {w w1 w2 : World} {A : Nat} {k1 n1 : Int} {s1 : ByteArray} {k2 n2 : Int} {s2 : ByteArray} {t : TypeId} (hA : Box3 A (.int .i64 k1) (.int .i64 n1) (.string s1) w2) (hb : Below w.heap.size w w2) (_h : w1 = w) :
    Duo w A w2.heap.size k1 n1 s1 k2 n2 s2 (w2.alloc (.cells #[.int .i64 k2, .int .i64 n2, .string s2] t)) := by
  obtain ⟨z, a0, a1, a2, _⟩ := hA.keep (alloc_below w2 (.cells #[.int .i64 k2, .int .i64 n2, .string s2] t))
  obtain ⟨z', c0, c1, c2, _⟩ := box3 w2 (.int .i64 k2) (.int .i64 n2) (.string s2) t
  exact ⟨a0, a1, a2, c0, c1, c2, z, z', hb.alloc hb.size _⟩

set_option maxRecDepth 100000 in
set_option maxHeartbeats 4000000 in
theorem law_val (x1 : Option Addr) (l1 p1 : Nat) (x2 : Option Addr) (l2 p2 : Nat) (w : World) (g1 : l1 ≤ p1) (m1 : p1 ≤ maxLen) (g2 : l2 ≤ p2) (m2 : p2 ≤ maxLen) (hc1 : IsCode w.heap.size x1 l1 w) (hc2 : IsCode w.heap.size x2 l2 w) (htab : Lib.TabIs Tryd.prog w "internal/strconv.uint64pow10" .u64 Lib.pow10Tab) :
    Calls Tryd.prog 3 #[.slice x1 l1 p1, .slice x2 l2 p2] w fun e w' => e = .returned (.bool true) ∧ Below w.heap.size w w' := by
  have Hc1 : Hid (IsCode w.heap.size x1 l1 w) := hc1
  have Hc2 : Hid (IsCode w.heap.size x2 l2 w) := hc2
  have Htab : Hid (Lib.TabIs Tryd.prog w "internal/strconv.uint64pow10" .u64 Lib.pow10Tab) := htab
  clear hc1 hc2 htab
  by_cases hl1 : (1048576 : Int) < l1
  · go_enter Tryd.func3, Tryd.ntmps3
    go_wp2_with fail
    go_ret
    exact ⟨rfl, Below.refl _ _⟩
  · by_cases hl2 : (1048576 : Int) < l2
    · go_enter Tryd.func3, Tryd.ntmps3
      go_wp2_with fail
      go_ret
      exact ⟨rfl, Below.refl _ _⟩
    · go_enter Tryd.func3, Tryd.ntmps3
      go_wp2_with fail
      refine (draw_text _ _ _ _ g1 m1 Hc1.out).mono ?_
      rintro e w1 ⟨k1, n1, s1, rfl, hs1, hb1⟩
      have Hb1 : Hid (Below w.heap.size w w1) := hb1
      have hz1 := hb1.size
      clear hb1 Hc1
      have Hs1 : Hid (s1.size ≤ maxLen) := (show s1.size ≤ maxLen by unfold maxLen; omega)
      obtain ⟨y, hy⟩ : ∃ y : ByteArray, y.data.toList = textV k1 n1 s1 := ⟨⟨(textV k1 n1 s1).toArray⟩, by simp⟩
      have hy7 : y.size ≤ 7 := by have := textV_le k1 n1 s1 hs1; rw [← hy] at this; simpa using this
      have Hy : Hid (y.data.toList = textV k1 n1 s1) := hy
      have Hym : Hid (y.size ≤ maxLen) := (show y.size ≤ maxLen by unfold maxLen; omega)
      clear hy
      go_wp2_with fail
      have hbA : Below w.heap.size w (w1.alloc (.cells #[.int .i64 k1, .int .i64 n1, .string s1] 24)) := Hb1.out.alloc hz1 _
      refine (text_is _ Hs1.out (Joins.tab_stays Tab.global Htab.out hbA (Nat.le_refl _)) Hy.out).mono ?_
      rintro e w2 ⟨rfl, hb2⟩
      have HA2 : Hid (Box3 w1.heap.size (.int .i64 k1) (.int .i64 n1) (.string s1) w2) := (box3 w1 _ _ _ 24).keep hb2
      have Hb2 : Hid (Below w.heap.size w w2) := hbA.trans (hb2.mono hbA.size)
      clear hbA hb2 Hb1
      obtain ⟨kx, nx, sx, o, hx, hok, hsame⟩ : ∃ (kx nx : Int) (sx : ByteArray) (o : Bool), readV y.data.toList = (kx, nx, sx.data.toList, o) ∧ valOk k1 n1 s1 = o ∧ (o = true → kx = k1 ∧ nx = n1 ∧ sx = s1) := by
        rw [Hy.out]
        cases hv : valOk k1 n1 s1
        · exact ⟨0, 0, ⟨#[]⟩, false, read_not k1 n1 s1 hv, rfl, fun h => by cases h⟩
        · exact ⟨k1, n1, s1, true, read_text k1 n1 s1 hv, rfl, fun _ => ⟨rfl, rfl, rfl⟩⟩
      have Hx : Hid (readV y.data.toList = (kx, nx, sx.data.toList, o)) := hx
      have Hok : Hid (valOk k1 n1 s1 = o) := hok
      have Hsame : Hid (o = true → kx = k1 ∧ nx = n1 ∧ sx = s1) := hsame
      clear hx hok hsame
      go_wp2_with fail
      refine (read_as _ Hym.out (Joins.tab_stays Tab.global Htab.out Hb2.out (Nat.le_refl _)) Hx.out).mono ?_
      rintro e w3 ⟨rfl, hb3⟩
      have HA3 : Hid (Box3 w1.heap.size (.int .i64 k1) (.int .i64 n1) (.string s1) w3) := HA2.out.keep hb3
      have Hb3 : Hid (Below w.heap.size w w3) := Hb2.out.trans (hb3.mono Hb2.out.size)
      clear hb3 HA2 Hb2
      go_upto_region 6 with (fail)
      have hD : Duo w w1.heap.size w3.heap.size k1 n1 s1 kx nx sx (w3.alloc (.cells #[.int .i64 kx, .int .i64 nx, .string sx] 24)) := duo_new HA3.out Hb3.out rfl
      generalize w3.alloc (.cells #[.int .i64 kx, .int .i64 nx, .string sx] 24) = v0 at hD ⊢
      clear HA3 Hb3
      have hE : Hid (Duo w w1.heap.size w3.heap.size k1 n1 s1 kx nx sx v0.drew) := duo_drew hD
      cases o
      · go_cut [55] (fun b W => b = .bool false ∧ Duo w w1.heap.size w3.heap.size k1 n1 s1 kx nx sx W)
        case first =>
          first
            | (go_region_with (first
          | (go_at_call 8; refine (stext_is _ Hs1.out Hy.out).mono ?_; rintro e v1 ⟨rfl, hb⟩; have hD := duo_next hE.out hb; have hE : Hid (Duo w w1.heap.size w3.heap.size k1 n1 s1 kx nx sx v1) := hD; clear hb)
          | (go_at_call 9; refine (ok_is _ Hs1.out Hok.out).mono ?_; rintro e v1 ⟨rfl, hb⟩; have hD := duo_next hE.out hb; have hE : Hid (Duo w w1.heap.size w3.heap.size k1 n1 s1 kx nx sx v1) := hD; clear hb)
          | (go_at_call 10; refine (sok_is _ Hs1.out Hok.out).mono ?_; rintro e v1 ⟨rfl, hb⟩; have hD := duo_next hE.out hb; have hE : Hid (Duo w w1.heap.size w3.heap.size k1 n1 s1 kx nx sx v1) := hD; clear hb)))
            | fail
          all_goals
            go_wp2_with fail
            go_meet
            case rel => exact ⟨rfl, hE.out⟩
        case rest =>
          obtain ⟨rfl, hD2⟩ := hcut
          go_wp2_with fail
          refine (draw_read w.heap.size _ _ _ _ hD2.2.2.2.2.2.2.2.2.size g2 m2 (Hc2.out.keep hD2.2.2.2.2.2.2.2.2)).mono ?_
          rintro e v2 ⟨T, rfl, hT, hb⟩
          have hD3 := duo_next hD2 hb
          clear hb hD2
          have HTm : Hid (T.size ≤ maxLen) := (show T.size ≤ maxLen by unfold maxLen; omega)
          obtain ⟨k2, n2, s2, b2, h2⟩ := readV_bytes T.data.toList
          have H2 : Hid (readV T.data.toList = (k2, n2, s2.data.toList, b2)) := h2
          clear h2
          go_wp2_with fail
          refine (read_as _ HTm.out (Joins.tab_stays Tab.global Htab.out hD3.2.2.2.2.2.2.2.2 (Nat.le_refl _)) H2.out).mono ?_
          rintro e v3 ⟨rfl, hb⟩
          have hD4 := duo_next hD3 hb
          clear hb hD3
          have HD5 : Hid (Duo w w1.heap.size w3.heap.size k1 n1 s1 kx nx sx (v3.alloc (.cells #[.int .i64 k2, .int .i64 n2, .string s2] 24))) := duo_next hD4 (alloc_below _ _)
          clear hD4
          go_wp2_with fail
          refine (sread_as _ HTm.out H2.out).mono ?_
          rintro e v4 ⟨rfl, hb⟩
          have hD6 := duo_next HD5.out hb
          have HY : Hid (Box3 v3.heap.size (.int .i64 k2) (.int .i64 n2) (.string s2) v4) := (box3 v3 _ _ _ 24).keep hb
          clear hb HD5
          go_upto_region 11 with (fail)
          have hD7 := duo_next hD6 (alloc_below v4 (.cells #[.int .i64 k2, .int .i64 n2, .string s2] 24))
          have hP : Duo w v3.heap.size v4.heap.size k2 n2 s2 k2 n2 s2 (v4.alloc (.cells #[.int .i64 k2, .int .i64 n2, .string s2] 24)) := duo_new HY.out hD6.2.2.2.2.2.2.2.2 rfl
          generalize v4.alloc (.cells #[.int .i64 k2, .int .i64 n2, .string s2] 24) = u0 at hD7 hP ⊢
          clear hD6 HY
          have hself := run_eql k2 n2 s2 k2 n2 s2
          rw [eqV_iff.2 ⟨rfl, rfl, rfl⟩] at hself
          cases b2
          · go_wp2_with fail
            go_ret
            exact ⟨rfl, hP.2.2.2.2.2.2.2.2⟩
          · obtain ⟨c, hc⟩ : ∃ c, eqV k2 n2 s2 k1 n1 s1 = c := ⟨_, rfl⟩
            have hrun := run_eql k2 n2 s2 k1 n1 s1
            rw [hc] at hrun
            have hTS : (T.toList == y.toList) = c := by
              rw [← hc, ByteArray.toList_eq, ByteArray.toList_eq, Hy.out]
              have := same_iff (k := k1) (n := n1) (s := s1) H2.out
              rw [bytes_eta] at this
              exact this.symm
            have htr := text_read H2.out
            rw [bytes_eta] at htr
            have Htx : Hid (T.data.toList = textV k2 n2 s2) := htr.2.symm
            have Hok2 : Hid (valOk k2 n2 s2 = true) := htr.1
            have Hs2 : Hid (s2.size ≤ maxLen) := ok_size htr.1
            clear htr hc
            go_wp2_with fail
            refine (text_is _ Hs2.out (Joins.tab_stays Tab.global Htab.out hP.2.2.2.2.2.2.2.2 (Nat.le_refl _)) Htx.out).mono ?_
            rintro e u1 ⟨rfl, hb⟩
            have hP1 := duo_next hP hb
            have hD8 := duo_next hD7 hb
            clear hb hP hD7
            go_wp2_with fail
            refine (ok_is _ Hs2.out Hok2.out).mono ?_
            rintro e u2 ⟨rfl, hb⟩
            have hP2 := duo_next hP1 hb
            have hD9 := duo_next hD8 hb
            clear hb hP1 hD8
            go_wp2_with fail
            go_ret
            exact ⟨rfl, hP2.2.2.2.2.2.2.2.2⟩
      · obtain ⟨hk, hn, hs⟩ := Hsame.out rfl
        subst hk hn hs
        have hneq := run_neq kx nx sx kx nx sx
        rw [eqV_iff.2 ⟨rfl, rfl, rfl⟩] at hneq
        go_cut [55] (fun b W => b = .bool false ∧ Duo w w1.heap.size w3.heap.size kx nx sx kx nx sx W)
        case first =>
          go_region_held3 (fun W => Duo w w1.heap.size w3.heap.size kx nx sx kx nx sx W) (exact hE.out)
            (first
          | (go_at_call 8; refine (stext_is _ Hs1.out Hy.out).mono ?_; rintro e v1 ⟨rfl, hb⟩; have hD := duo_next hE.out hb; have hE : Hid (Duo w w1.heap.size w3.heap.size kx nx sx kx nx sx v1) := hD; clear hb)
          | (go_at_call 9; refine (ok_is _ Hs1.out Hok.out).mono ?_; rintro e v1 ⟨rfl, hb⟩; have hD := duo_next hE.out hb; have hE : Hid (Duo w w1.heap.size w3.heap.size kx nx sx kx nx sx v1) := hD; clear hb)
          | (go_at_call 10; refine (sok_is _ Hs1.out Hok.out).mono ?_; rintro e v1 ⟨rfl, hb⟩; have hD := duo_next hE.out hb; have hE : Hid (Duo w w1.heap.size w3.heap.size kx nx sx kx nx sx v1) := hD; clear hb))
          all_goals
            go_wp2_with fail
            go_meet
            case rel => exact ⟨rfl, hE.out⟩
        case rest =>
          obtain ⟨rfl, hD2⟩ := hcut
          go_wp2_with fail
          refine (draw_read w.heap.size _ _ _ _ hD2.2.2.2.2.2.2.2.2.size g2 m2 (Hc2.out.keep hD2.2.2.2.2.2.2.2.2)).mono ?_
          rintro e v2 ⟨T, rfl, hT, hb⟩
          have hD3 := duo_next hD2 hb
          clear hb hD2
          have HTm : Hid (T.size ≤ maxLen) := (show T.size ≤ maxLen by unfold maxLen; omega)
          obtain ⟨k2, n2, s2, b2, h2⟩ := readV_bytes T.data.toList
          have H2 : Hid (readV T.data.toList = (k2, n2, s2.data.toList, b2)) := h2
          clear h2
          go_wp2_with fail
          refine (read_as _ HTm.out (Joins.tab_stays Tab.global Htab.out hD3.2.2.2.2.2.2.2.2 (Nat.le_refl _)) H2.out).mono ?_
          rintro e v3 ⟨rfl, hb⟩
          have hD4 := duo_next hD3 hb
          clear hb hD3
          have HD5 : Hid (Duo w w1.heap.size w3.heap.size kx nx sx kx nx sx (v3.alloc (.cells #[.int .i64 k2, .int .i64 n2, .string s2] 24))) := duo_next hD4 (alloc_below _ _)
          clear hD4
          go_wp2_with fail
          refine (sread_as _ HTm.out H2.out).mono ?_
          rintro e v4 ⟨rfl, hb⟩
          have hD6 := duo_next HD5.out hb
          have HY : Hid (Box3 v3.heap.size (.int .i64 k2) (.int .i64 n2) (.string s2) v4) := (box3 v3 _ _ _ 24).keep hb
          clear hb HD5
          go_upto_region 11 with (fail)
          have hD7 := duo_next hD6 (alloc_below v4 (.cells #[.int .i64 k2, .int .i64 n2, .string s2] 24))
          have hP : Duo w v3.heap.size v4.heap.size k2 n2 s2 k2 n2 s2 (v4.alloc (.cells #[.int .i64 k2, .int .i64 n2, .string s2] 24)) := duo_new HY.out hD6.2.2.2.2.2.2.2.2 rfl
          generalize v4.alloc (.cells #[.int .i64 k2, .int .i64 n2, .string s2] 24) = u0 at hD7 hP ⊢
          clear hD6 HY
          have hself := run_eql k2 n2 s2 k2 n2 s2
          rw [eqV_iff.2 ⟨rfl, rfl, rfl⟩] at hself
          cases b2
          · go_wp2_with fail
            go_ret
            exact ⟨rfl, hP.2.2.2.2.2.2.2.2⟩
          · obtain ⟨c, hc⟩ : ∃ c, eqV k2 n2 s2 kx nx sx = c := ⟨_, rfl⟩
            have hrun := run_eql k2 n2 s2 kx nx sx
            rw [hc] at hrun
            have hTS : (T.toList == y.toList) = c := by
              rw [← hc, ByteArray.toList_eq, ByteArray.toList_eq, Hy.out]
              have := same_iff (k := kx) (n := nx) (s := sx) H2.out
              rw [bytes_eta] at this
              exact this.symm
            have htr := text_read H2.out
            rw [bytes_eta] at htr
            have Htx : Hid (T.data.toList = textV k2 n2 s2) := htr.2.symm
            have Hok2 : Hid (valOk k2 n2 s2 = true) := htr.1
            have Hs2 : Hid (s2.size ≤ maxLen) := ok_size htr.1
            clear htr hc
            go_wp2_with fail
            refine (text_is _ Hs2.out (Joins.tab_stays Tab.global Htab.out hP.2.2.2.2.2.2.2.2 (Nat.le_refl _)) Htx.out).mono ?_
            rintro e u1 ⟨rfl, hb⟩
            have hP1 := duo_next hP hb
            have hD8 := duo_next hD7 hb
            clear hb hP hD7
            go_wp2_with fail
            refine (ok_is _ Hs2.out Hok2.out).mono ?_
            rintro e u2 ⟨rfl, hb⟩
            have hP2 := duo_next hP1 hb
            have hD9 := duo_next hD8 hb
            clear hb hP1 hD8
            go_wp2_with fail
            go_ret
            exact ⟨rfl, hP2.2.2.2.2.2.2.2.2⟩

end Go.Proofs.YtmfilahccefcoaaDoor
