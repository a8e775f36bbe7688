/- The walk of laws.FnValNum, over the seat's translation; the table of powers of ten is as the program's text lays it. -/
import Derived.Test.YtmdmlpijekilhaaDoorAs3
import Derived.Test.YtmdmlpijekilhaaDoorAs4
import Derived.Test.YtmdmlpijekilhaaDoorTx4
import Derived.BigQuiet
import Derived.Deep.QuietTactic
namespace Go.Proofs.YtmdmlpijekilhaaDoor
open Go.RowKit

theorem as_is {k n : Int} {s : ByteArray} {c kx nx : Int} {sx : ByteArray} (w : World) (hs : s.size ≤ maxLen) (htab : Lib.TabIs Tryd.prog w "internal/strconv.uint64pow10" .u64 Lib.pow10Tab) (h : asV k n s c = (kx, nx, sx.data.toList)) :
    Calls Tryd.prog 14 #[.agg #[.int .i64 k, .int .i64 n, .string s], .int .i64 c] w fun e w' => e = .returned (.agg #[.int .i64 kx, .int .i64 nx, .string sx]) ∧ Below w.heap.size w w' := by
  have := impl_as k n s c w hs htab
  rw [h] at this
  unfold valA at this
  rw [bytes_eta] at this
  exact this
theorem sas_is {k n : Int} {s : ByteArray} {c kx nx : Int} {sx : ByteArray} (w : World) (hs : s.size ≤ maxLen) (h : asV k n s c = (kx, nx, sx.data.toList)) :
    Calls Tryd.prog 15 #[.agg #[.int .i64 k, .int .i64 n, .string s], .int .i64 c] w fun e w' => e = .returned (.agg #[.int .i64 kx, .int .i64 nx, .string sx]) ∧ Below w.heap.size w w' := by
  have := spec_as k n s c w hs
  rw [h] at this
  unfold valA at this
  rw [bytes_eta] at this
  exact this
theorem valA_of {x : Int × Int × List UInt8} {kx nx : Int} {sx : ByteArray} (h : x = (kx, nx, sx.data.toList)) : valA x = .agg #[.int .i64 kx, .int .i64 nx, .string sx] := by unfold valA; rw [h, bytes_eta]
theorem asV_bytes (k n : Int) (s : ByteArray) (c : Int) : ∃ (kx nx : Int) (sx : ByteArray), asV k n s c = (kx, nx, sx.data.toList) := ⟨(asV k n s c).1, (asV k n s c).2.1, ⟨(asV k n s c).2.2.toArray⟩, by simp⟩

/-- Three boxes at A, X and Y hold three values in W, and W lies over w. -/
abbrev Tri (w : World) (A X Y : Nat) (k1 n1 : Int) (s1 : ByteArray) (k2 n2 : Int) (s2 : ByteArray) (k3 n3 : Int) (s3 : ByteArray) (W : World) : Prop :=
  W.cell? ⟨A, 0, none⟩ = some (.int .i64 k1) ∧ W.cell? ⟨A, 1, none⟩ = some (.int .i64 n1) ∧ W.cell? ⟨A, 2, none⟩ = some (.string s1) ∧
  W.cell? ⟨X, 0, none⟩ = some (.int .i64 k2) ∧ W.cell? ⟨X, 1, none⟩ = some (.int .i64 n2) ∧ W.cell? ⟨X, 2, none⟩ = some (.string s2) ∧
  W.cell? ⟨Y, 0, none⟩ = some (.int .i64 k3) ∧ W.cell? ⟨Y, 1, none⟩ = some (.int .i64 n3) ∧ W.cell? ⟨Y, 2, none⟩ = some (.string s3) ∧ A < W.heap.size ∧ X < W.heap.size ∧ Y < W.heap.size ∧ Below w.heap.size w W
theorem tri_next {w : World} {A X Y : Nat} {k1 n1 : Int} {s1 : ByteArray} {k2 n2 : Int} {s2 : ByteArray} {k3 n3 : Int} {s3 : ByteArray} {W W' : World} (h : Tri w A X Y k1 n1 s1 k2 n2 s2 k3 n3 s3 W) (hb : Below W.heap.size W W') : Tri w A X Y k1 n1 s1 k2 n2 s2 k3 n3 s3 W' := by
  obtain ⟨a, b, c, d, e, f, a', b', c', g, g', g'', i⟩ := h
  have hc := (bcell hb).1
  have hz := hb.size
  have hi := i.size
  exact ⟨by rw [hc _ _ (by omega)]; exact a, by rw [hc _ _ (by omega)]; exact b, by rw [hc _ _ (by omega)]; exact c, by rw [hc _ _ (by omega)]; exact d, by rw [hc _ _ (by omega)]; exact e, by rw [hc _ _ (by omega)]; exact f, by rw [hc _ _ (by omega)]; exact a', by rw [hc _ _ (by omega)]; exact b', by rw [hc _ _ (by omega)]; exact c', by omega, by omega, by omega, i.trans (hb.mono (by omega))⟩
theorem tri_new {w : World} {A X : Nat} {k1 n1 : Int} {s1 : ByteArray} {k2 n2 : Int} {s2 : ByteArray} {k3 n3 : Int} {s3 : ByteArray} {W : World} {t : TypeId} (h : Duo w A X k1 n1 s1 k2 n2 s2 W) :
    Tri w A X W.heap.size k1 n1 s1 k2 n2 s2 k3 n3 s3 (W.alloc (.cells #[.int .i64 k3, .int .i64 n3, .string s3] t)) := by
  obtain ⟨a, b, c, d, e, f, g, g', i⟩ := duo_next h (alloc_below W (.cells #[.int .i64 k3, .int .i64 n3, .string s3] t))
  obtain ⟨z', c0, c1, c2, _⟩ := box3 W (.int .i64 k3) (.int .i64 n3) (.string s3) t
  exact ⟨a, b, c, d, e, f, c0, c1, c2, g, g', z', i⟩

theorem below_drewN {B : Nat} {w W : World} (h : Below B w W) (k : Nat) : Below B w (W.drewN k) := h.trans ⟨rfl, rfl, rfl, Nat.le_refl _, fun _ _ => rfl⟩

theorem not_quoted_ok {s : ByteArray} (h : textOk s = true) : quoted s.data.toList = false := by
  cases hq : quoted s.data.toList
  · rfl
  · have h1 : signs s.data.toList = true := by simp [textOk] at h; exact h.1
    rw [← quoted_shape hq] at h1
    simp [signs, sign] at h1

/-- What is read from a right text: a number where it is one, else no number. -/
theorem read_num {s : ByteArray} {m : Int} (ho : textOk s = true) (h : readNum s.data.toList = some m) : readV s.data.toList = (1, m, [], true) := by
  refine readV_num (fun e => ?_) (by rw [not_quoted_ok ho]; rfl) h
  have := numL_of_readNum h
  rw [e, numL_none] at this
  cases this
theorem read_no {s : ByteArray} (ho : textOk s = true) (h : readNum s.data.toList = none) : ∃ b, readV s.data.toList = (0, 0, [], b) := by
  by_cases hn : s.data.toList = [110, 111, 110, 101]
  · exact ⟨true, readV_none hn⟩
  · exact ⟨false, readV_not hn (by rw [not_quoted_ok ho]; rfl) h⟩

set_option maxRecDepth 100000 in
set_option maxHeartbeats 4000000 in
theorem law_num (x1 : Option Addr) (l1 p1 : Nat) (w : World) (g1 : l1 ≤ p1) (m1 : p1 ≤ maxLen) (hc1 : IsCode w.heap.size x1 l1 w) (htab : Lib.TabIs Tryd.prog w "internal/strconv.uint64pow10" .u64 Lib.pow10Tab) :
    Calls Tryd.prog 4 #[.slice x1 l1 p1] w fun e w' => e = .returned (.bool true) ∧ Below w.heap.size w w' := by
  have Hc1 : Hid (IsCode w.heap.size x1 l1 w) := hc1
  have Htab : Hid (Lib.TabIs Tryd.prog w "internal/strconv.uint64pow10" .u64 Lib.pow10Tab) := htab
  clear hc1 htab
  by_cases hl1 : (1048576 : Int) < l1
  · go_enter Tryd.func4, Tryd.ntmps4
    go_wp2_with fail
    go_ret
    exact ⟨rfl, Below.refl _ _⟩
  · go_enter Tryd.func4, Tryd.ntmps4
    go_wp2_with fail
    refine (draw_as _ _ _ _ g1 m1 Hc1.out).mono ?_
    rintro e w1 ⟨k1, n1, s1, c, rfl, hs1, hb1⟩
    have Hb1 : Hid (Below w.heap.size w w1) := hb1
    have hz1 := hb1.size
    clear hb1 Hc1
    have Hs1 : Hid (s1.size ≤ maxLen) := (show s1.size ≤ maxLen by unfold maxLen; omega)
    obtain ⟨kx, nx, sx, hx⟩ := asV_bytes k1 n1 s1 1
    obtain ⟨kc, nc, sc, hcc⟩ := asV_bytes k1 n1 s1 c
    have Hx : Hid (asV k1 n1 s1 1 = (kx, nx, sx.data.toList)) := hx
    have Hcc : Hid (asV k1 n1 s1 c = (kc, nc, sc.data.toList)) := hcc
    clear hx hcc
    have HX1 : Hid (valA (asV k1 n1 s1 1) = .agg #[.int .i64 kx, .int .i64 nx, .string sx]) := valA_of Hx.out
    have HC1 : Hid (valA (asV k1 n1 s1 c) = .agg #[.int .i64 kc, .int .i64 nc, .string sc]) := valA_of Hcc.out
    go_wp2_with fail
    have hbA : Below w.heap.size w (w1.alloc (.cells #[.int .i64 k1, .int .i64 n1, .string s1] 24)) := Hb1.out.alloc hz1 _
    refine (as_is _ Hs1.out (Joins.tab_stays Tab.global Htab.out hbA (Nat.le_refl _)) Hx.out).mono ?_
    rintro e w2 ⟨rfl, hb2⟩
    have HA2 : Hid (Box3 w1.heap.size (.int .i64 k1) (.int .i64 n1) (.string s1) w2) := (box3 w1 _ _ _ 24).keep hb2
    have Hb2 : Hid (Below w.heap.size w w2) := hbA.trans (hb2.mono hbA.size)
    clear hbA hb2 Hb1
    go_upto_region 5 with (fail)
    have hD : Duo w w1.heap.size w2.heap.size k1 n1 s1 kx nx sx (w2.alloc (.cells #[.int .i64 kx, .int .i64 nx, .string sx] 24)) := duo_new HA2.out Hb2.out rfl
    generalize w2.alloc (.cells #[.int .i64 kx, .int .i64 nx, .string sx] 24) = v0 at hD ⊢
    clear HA2 Hb2
    have hE : Hid (Duo w w1.heap.size w2.heap.size k1 n1 s1 kx nx sx v0.drew) := duo_drew hD
    have hneq := run_neq kx nx sx kx nx sx
    rw [eqV_iff.2 ⟨rfl, rfl, rfl⟩] at hneq
    have hneq2 := run_neq kc nc sc kc nc sc
    rw [eqV_iff.2 ⟨rfl, rfl, rfl⟩] at hneq2
    obtain ⟨o, hok⟩ : ∃ o, valOk k1 n1 s1 = o := ⟨_, rfl⟩
    have Hok : Hid (valOk k1 n1 s1 = o) := hok
    clear hok
    cases o
    · go_cut [41] (fun b W => b = .bool true ∧ Duo w w1.heap.size w2.heap.size k1 n1 s1 kx nx sx W)
      case first =>
        first
          | (go_region_with
            (first
              | (go_at_call 15; refine (spec_as k1 n1 s1 _ _ Hs1.out).mono ?_; rintro e v1 ⟨he, hb⟩; (first | rw [HX1.out] at he | rw [HC1.out] at he); subst he; have hD := duo_next hE.out hb; have hE : Hid (Duo w w1.heap.size w2.heap.size k1 n1 s1 kx nx sx v1) := hD; clear hb)
              | (go_at_call 14; refine (as_is _ Hs1.out (Joins.tab_stays Tab.global Htab.out hE.out.2.2.2.2.2.2.2.2 (Nat.le_refl _)) Hcc.out).mono ?_; rintro e v1 ⟨rfl, hb⟩; have hD := duo_next hE.out hb; have hE : Hid (Duo w w1.heap.size w2.heap.size k1 n1 s1 kx nx sx v1) := hD; clear hb)
              | (go_at_call 9; refine (ok_is _ Hs1.out Hok.out).mono ?_; rintro e v1 ⟨rfl, hb⟩; have hD := duo_next hE.out hb; have hE : Hid (Duo w w1.heap.size w2.heap.size k1 n1 s1 kx nx sx v1) := hD; clear hb)))
          | fail
        all_goals
          go_wp2_with fail
          go_meet
          case rel => exact ⟨rfl, hE.out⟩
      case rest =>
        obtain ⟨rfl, hD2⟩ := hcut
        have heql := run_eql kx nx sx kx nx sx
        rw [eqV_iff.2 ⟨rfl, rfl, rfl⟩] at heql
        have heql2 := run_eql kc nc sc kc nc sc
        rw [eqV_iff.2 ⟨rfl, rfl, rfl⟩] at heql2
        clear hneq hneq2 hE hD
        go_upto_region 6 with (fail)
        have hE := (show Hid _ from duo_drew hD2)
        first
          | (go_region_held3 (fun W => Duo w w1.heap.size w2.heap.size k1 n1 s1 kx nx sx W) (exact hE.out)
            (first
              | (go_at_call 15; refine (spec_as k1 n1 s1 _ _ Hs1.out).mono ?_; rintro e v1 ⟨he, hb⟩; (first | rw [HX1.out] at he | rw [HC1.out] at he); subst he; have hD := duo_next hE.out hb; have hE : Hid (Duo w w1.heap.size w2.heap.size k1 n1 s1 kx nx sx v1) := hD; clear hb)
              | (go_at_call 14; refine (as_is _ Hs1.out (Joins.tab_stays Tab.global Htab.out hE.out.2.2.2.2.2.2.2.2 (Nat.le_refl _)) Hcc.out).mono ?_; rintro e v1 ⟨rfl, hb⟩; have hD := duo_next hE.out hb; have hE : Hid (Duo w w1.heap.size w2.heap.size k1 n1 s1 kx nx sx v1) := hD; clear hb)
              | (go_at_call 9; refine (ok_is _ Hs1.out Hok.out).mono ?_; rintro e v1 ⟨rfl, hb⟩; have hD := duo_next hE.out hb; have hE : Hid (Duo w w1.heap.size w2.heap.size k1 n1 s1 kx nx sx v1) := hD; clear hb)))
          | fail
        all_goals
          go_wp2_with fail
          go_ret
          exact ⟨rfl, hE.out.2.2.2.2.2.2.2.2⟩
    · by_cases hk : k1 = 2
      · subst hk
        obtain ⟨hn0, hto⟩ := ok_text Hok.out
        subst hn0
        have Hto : Hid (textOk s1 = true) := hto
        clear hto
        go_cut [41] (fun b W => b = .bool false ∧ Duo w w1.heap.size w2.heap.size 2 0 s1 kx nx sx W)
        case first =>
          first
            | (go_region_held3 (fun W => Duo w w1.heap.size w2.heap.size 2 0 s1 kx nx sx W) (exact hE.out)
              (first
                | (go_at_call 15; refine (spec_as 2 0 s1 _ _ Hs1.out).mono ?_; rintro e v1 ⟨he, hb⟩; (first | rw [HX1.out] at he | rw [HC1.out] at he); subst he; have hD := duo_next hE.out hb; have hE : Hid (Duo w w1.heap.size w2.heap.size 2 0 s1 kx nx sx v1) := hD; clear hb)
                | (go_at_call 14; refine (as_is _ Hs1.out (Joins.tab_stays Tab.global Htab.out hE.out.2.2.2.2.2.2.2.2 (Nat.le_refl _)) Hcc.out).mono ?_; rintro e v1 ⟨rfl, hb⟩; have hD := duo_next hE.out hb; have hE : Hid (Duo w w1.heap.size w2.heap.size 2 0 s1 kx nx sx v1) := hD; clear hb)
                | (go_at_call 9; refine (ok_is _ Hs1.out Hok.out).mono ?_; rintro e v1 ⟨rfl, hb⟩; have hD := duo_next hE.out hb; have hE : Hid (Duo w w1.heap.size w2.heap.size 2 0 s1 kx nx sx v1) := hD; clear hb)))
            | fail
          all_goals
            go_wp2_with fail
            go_meet
            case rel => exact ⟨rfl, hE.out⟩
        case rest =>
          obtain ⟨rfl, hD2⟩ := hcut
          clear hneq hneq2 hE hD
          cases hr : readNum s1.data.toList with
          | some m =>
            have e := Hx.out
            rw [asV_21s Hok.out hr] at e
            simp only [Prod.mk.injEq] at e
            obtain ⟨e1, e2, e3⟩ := e
            have e4 : sx = ⟨#[]⟩ := bytes_nil (by rw [ByteArray.toList_eq]; exact e3.symm)
            subst e1 e2 e4
            obtain ⟨q1, q2, q3⟩ := readNum_some hr
            have hn : numOk m = true := by simp [numOk, q2, q3]
            have hrd : readV s1.data.toList = (1, m, (⟨#[]⟩ : ByteArray).data.toList, true) := read_num Hto.out hr
            have has : asV 1 m ⟨#[]⟩ 2 = (2, 0, s1.data.toList) := by rw [asV_12 (by simp [valOk, hn]), q1]
            have Hrd := (show Hid _ from hrd)
            have Has := (show Hid _ from has)
            clear hr q1 q2 q3 hn hrd has e3
            go_wp2_with fail
            refine (read_as (s := ⟨#[]⟩) _ Hs1.out (Joins.tab_stays Tab.global Htab.out hD2.2.2.2.2.2.2.2.2 (Nat.le_refl _)) Hrd.out).mono ?_
            rintro e u1 ⟨rfl, hb⟩
            have hD3 := duo_next hD2 hb
            clear hb hD2
            go_upto_region 9 with (fail)
            have hT : Tri w w1.heap.size w2.heap.size u1.heap.size 2 0 s1 1 m ⟨#[]⟩ 1 m ⟨#[]⟩ (u1.alloc (.cells #[.int .i64 1, .int .i64 m, .string ⟨#[]⟩] 24)) := tri_new hD3
            generalize u1.alloc (.cells #[.int .i64 1, .int .i64 m, .string ⟨#[]⟩] 24) = v3 at hT ⊢
            clear hD3
            have hE : Hid (Tri w w1.heap.size w2.heap.size u1.heap.size 2 0 s1 1 m ⟨#[]⟩ 1 m ⟨#[]⟩ v3.drew) := tri_next hT (Below.refl _ _).drew
            have hself := run_eql 1 m ⟨#[]⟩ 1 m ⟨#[]⟩
            rw [eqV_iff.2 ⟨rfl, rfl, rfl⟩] at hself
            have hselfv := run_eql 2 0 s1 2 0 s1
            rw [eqV_iff.2 ⟨rfl, rfl, rfl⟩] at hselfv
            first
              | (go_region_held3 (fun W => Tri w w1.heap.size w2.heap.size u1.heap.size 2 0 s1 1 m ⟨#[]⟩ 1 m ⟨#[]⟩ W) (exact hE.out)
                (first
                  | (go_at_call 14; refine (as_is _ (by decide) (Joins.tab_stays Tab.global Htab.out hE.out.2.2.2.2.2.2.2.2.2.2.2.2 (Nat.le_refl _)) Has.out).mono ?_; rintro e v4 ⟨rfl, hb⟩; have hD := tri_next hE.out hb; have hE : Hid (Tri w w1.heap.size w2.heap.size u1.heap.size 2 0 s1 1 m ⟨#[]⟩ 1 m ⟨#[]⟩ v4) := hD; clear hb)))
              | fail
            all_goals
              go_wp2_with fail
              go_ret
              exact ⟨rfl, hE.out.2.2.2.2.2.2.2.2.2.2.2.2⟩
          | none =>
            have e := Hx.out
            rw [asV_21n Hok.out hr] at e
            simp only [Prod.mk.injEq] at e
            obtain ⟨e1, e2, e3⟩ := e
            have e4 : sx = ⟨#[]⟩ := bytes_nil (by rw [ByteArray.toList_eq]; exact e3.symm)
            subst e1 e2 e4
            obtain ⟨bb, hrd⟩ := read_no Hto.out hr
            have Hrd : Hid (readV s1.data.toList = (0, 0, (⟨#[]⟩ : ByteArray).data.toList, bb)) := hrd
            clear hr hrd e3
            cases bb
            all_goals
              go_wp2_with fail
              refine (read_as (s := ⟨#[]⟩) _ Hs1.out (Joins.tab_stays Tab.global Htab.out hD2.2.2.2.2.2.2.2.2 (Nat.le_refl _)) Hrd.out).mono ?_
              rintro e u1 ⟨rfl, hb⟩
              have hD3 := duo_next hD2 hb
              clear hb hD2
              go_upto_region 9 with (fail)
              have hT : Tri w w1.heap.size w2.heap.size u1.heap.size 2 0 s1 0 0 ⟨#[]⟩ 0 0 ⟨#[]⟩ (u1.alloc (.cells #[.int .i64 0, .int .i64 0, .string ⟨#[]⟩] 24)) := tri_new hD3
              generalize u1.alloc (.cells #[.int .i64 0, .int .i64 0, .string ⟨#[]⟩] 24) = v3 at hT ⊢
              clear hD3
              obtain ⟨t1, t2, t3, t4, t5, t6, t7, t8, t9, t10, t11, t12, t13⟩ := hT
              go_quiet (fail)
              all_goals
                go_wp2_with fail
                go_ret
                exact ⟨rfl, below_drewN t13 _⟩
      · have hk2 : (k1 == 2) = false := beq_eq_false_iff_ne.2 hk
        go_cut [41] (fun b W => b = .bool true ∧ Duo w w1.heap.size w2.heap.size k1 n1 s1 kx nx sx W)
        case first =>
          first
            | (go_region_held3 (fun W => Duo w w1.heap.size w2.heap.size k1 n1 s1 kx nx sx W) (exact hE.out)
              (first
                | (go_at_call 15; refine (spec_as k1 n1 s1 _ _ Hs1.out).mono ?_; rintro e v1 ⟨he, hb⟩; (first | rw [HX1.out] at he | rw [HC1.out] at he); subst he; have hD := duo_next hE.out hb; have hE : Hid (Duo w w1.heap.size w2.heap.size k1 n1 s1 kx nx sx v1) := hD; clear hb)
                | (go_at_call 14; refine (as_is _ Hs1.out (Joins.tab_stays Tab.global Htab.out hE.out.2.2.2.2.2.2.2.2 (Nat.le_refl _)) Hcc.out).mono ?_; rintro e v1 ⟨rfl, hb⟩; have hD := duo_next hE.out hb; have hE : Hid (Duo w w1.heap.size w2.heap.size k1 n1 s1 kx nx sx v1) := hD; clear hb)
                | (go_at_call 9; refine (ok_is _ Hs1.out Hok.out).mono ?_; rintro e v1 ⟨rfl, hb⟩; have hD := duo_next hE.out hb; have hE : Hid (Duo w w1.heap.size w2.heap.size k1 n1 s1 kx nx sx v1) := hD; clear hb)))
            | fail
          all_goals
            go_wp2_with fail
            go_meet
            case rel => exact ⟨by rw [bne, hk2]; rfl, hE.out⟩
        case rest =>
          obtain ⟨rfl, hD2⟩ := hcut
          have heql := run_eql kx nx sx kx nx sx
          rw [eqV_iff.2 ⟨rfl, rfl, rfl⟩] at heql
          have heql2 := run_eql kc nc sc kc nc sc
          rw [eqV_iff.2 ⟨rfl, rfl, rfl⟩] at heql2
          clear hneq hneq2 hE hD
          go_upto_region 6 with (fail)
          have hE := (show Hid _ from duo_drew hD2)
          first
            | (go_region_held3 (fun W => Duo w w1.heap.size w2.heap.size k1 n1 s1 kx nx sx W) (exact hE.out)
              (first
                | (go_at_call 15; refine (spec_as k1 n1 s1 _ _ Hs1.out).mono ?_; rintro e v1 ⟨he, hb⟩; (first | rw [HX1.out] at he | rw [HC1.out] at he); subst he; have hD := duo_next hE.out hb; have hE : Hid (Duo w w1.heap.size w2.heap.size k1 n1 s1 kx nx sx v1) := hD; clear hb)
                | (go_at_call 14; refine (as_is _ Hs1.out (Joins.tab_stays Tab.global Htab.out hE.out.2.2.2.2.2.2.2.2 (Nat.le_refl _)) Hcc.out).mono ?_; rintro e v1 ⟨rfl, hb⟩; have hD := duo_next hE.out hb; have hE : Hid (Duo w w1.heap.size w2.heap.size k1 n1 s1 kx nx sx v1) := hD; clear hb)
                | (go_at_call 9; refine (ok_is _ Hs1.out Hok.out).mono ?_; rintro e v1 ⟨rfl, hb⟩; have hD := duo_next hE.out hb; have hE : Hid (Duo w w1.heap.size w2.heap.size k1 n1 s1 kx nx sx v1) := hD; clear hb)))
            | fail
          all_goals
            go_wp2_with fail
            go_ret
            exact ⟨rfl, hE.out.2.2.2.2.2.2.2.2⟩

end Go.Proofs.YtmdmlpijekilhaaDoor
