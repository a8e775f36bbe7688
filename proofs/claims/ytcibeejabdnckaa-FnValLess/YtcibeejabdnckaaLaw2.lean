/- The walk of laws.FnValLess, over the seat's translation. -/
import Derived.Test.YtcibeejabdnckaaLaw1
import Derived.Test.YtcibeejabdnckaaDraw5
namespace Go.Proofs.Ytcibeejabdnckaa
open Go.RowKit

/-- Three boxes at A, A + 1 and C hold three values in W, and W lies over w. -/
abbrev Tri (w : World) (A C : Nat) (k1 n1 : Int) (s1 : ByteArray) (k2 n2 : Int) (s2 : ByteArray) (k3 n3 : Int) (s3 : ByteArray) (W : World) : Prop :=
  W.cell? ⟨A, 0, none⟩ = some (.int .i64 k1) ∧ W.cell? ⟨A, 1, none⟩ = some (.int .i64 n1) ∧ W.cell? ⟨A, 2, none⟩ = some (.string s1) ∧
  W.cell? ⟨A + 1, 0, none⟩ = some (.int .i64 k2) ∧ W.cell? ⟨A + 1, 1, none⟩ = some (.int .i64 n2) ∧ W.cell? ⟨A + 1, 2, none⟩ = some (.string s2) ∧
  W.cell? ⟨C, 0, none⟩ = some (.int .i64 k3) ∧ W.cell? ⟨C, 1, none⟩ = some (.int .i64 n3) ∧ W.cell? ⟨C, 2, none⟩ = some (.string s3) ∧
  A + 1 < W.heap.size ∧ C < W.heap.size ∧ w.heap.size ≤ W.heap.size ∧ Below w.heap.size w W

theorem tri_next {w : World} {A C : Nat} {k1 n1 : Int} {s1 : ByteArray} {k2 n2 : Int} {s2 : ByteArray} {k3 n3 : Int} {s3 : ByteArray} {W W' : World} (h : Tri w A C k1 n1 s1 k2 n2 s2 k3 n3 s3 W) (hb : Below W.heap.size W W') : Tri w A C k1 n1 s1 k2 n2 s2 k3 n3 s3 W' := by
  obtain ⟨a0, a1, a2, b0, b1, b2, c0, c1, c2, z1, z2, z3, i⟩ := h
  have hc := (bcell hb).1
  have hz := hb.size
  exact ⟨by rw [hc _ _ (by omega)]; exact a0, by rw [hc _ _ (by omega)]; exact a1, by rw [hc _ _ (by omega)]; exact a2, by rw [hc _ _ (by omega)]; exact b0, by rw [hc _ _ (by omega)]; exact b1, by rw [hc _ _ (by omega)]; exact b2, by rw [hc _ _ (by omega)]; exact c0, by rw [hc _ _ (by omega)]; exact c1, by rw [hc _ _ (by omega)]; exact c2, by omega, by omega, by omega, i.trans (hb.mono (by omega))⟩

theorem tri_new {w w1 w2 : World} {k1 n1 : Int} {s1 : ByteArray} {k2 n2 : Int} {s2 : ByteArray} {k3 n3 : Int} {s3 : ByteArray} {k4 n4 : Int} {s4 : ByteArray} {t : TypeId} (hA : Box3 w1.heap.size (.int .i64 k1) (.int .i64 n1) (.string s1) w2) (hB : Box3 (w1.heap.size + 1) (.int .i64 k2) (.int .i64 n2) (.string s2) w2) (hb : Below w.heap.size w w2) (_hz : w.heap.size ≤ w1.heap.size) :
    Tri w w1.heap.size w2.heap.size k1 n1 s1 k2 n2 s2 k3 n3 s3 ((w2.alloc (.cells #[.int .i64 k3, .int .i64 n3, .string s3] t)).alloc (.cells #[.int .i64 k4, .int .i64 n4, .string s4] t)) := by
  have b1 := alloc_below w2 (.cells #[.int .i64 k3, .int .i64 n3, .string s3] t)
  have b2 := alloc_below (w2.alloc (.cells #[.int .i64 k3, .int .i64 n3, .string s3] t)) (.cells #[.int .i64 k4, .int .i64 n4, .string s4] t)
  obtain ⟨_, a0, a1, a2, _⟩ := (hA.keep b1).keep b2
  obtain ⟨_, c0, c1, c2, _⟩ := (hB.keep b1).keep b2
  obtain ⟨zC, d0, d1, d2, _⟩ := (box3 w2 (.int .i64 k3) (.int .i64 n3) (.string s3) t).keep b2
  have hs := hb.size
  have hz2 := hB.1
  exact ⟨a0, a1, a2, c0, c1, c2, d0, d1, d2, by simp; omega, zC, by simp; omega, (hb.alloc hs _).alloc (by simp; omega) _⟩
theorem less_as {k1 n1 : Int} {s1 : ByteArray} {k2 n2 : Int} {s2 : ByteArray} {p : Bool} (w : World) (h : lessV k1 n1 s1 k2 n2 s2 = p) :
    Calls Try.prog 6 #[.agg #[.int .i64 k1, .int .i64 n1, .string s1], .agg #[.int .i64 k2, .int .i64 n2, .string s2]] w fun e w' => e = .returned (.bool p) ∧ Below w.heap.size w w' := by
  have := impl_less k1 n1 s1 k2 n2 s2 w
  rw [h] at this
  exact this
theorem spec_as {k1 n1 : Int} {s1 : ByteArray} {k2 n2 : Int} {s2 : ByteArray} {p : Bool} (w : World) (h : lessV k1 n1 s1 k2 n2 s2 = p) :
    Calls Try.prog 7 #[.agg #[.int .i64 k1, .int .i64 n1, .string s1], .agg #[.int .i64 k2, .int .i64 n2, .string s2]] w fun e w' => e = .returned (.bool p) ∧ Below w.heap.size w w' := by
  have := spec_less k1 n1 s1 k2 n2 s2 w
  rw [h] at this
  exact this
theorem ok_as {k n : Int} {s : ByteArray} {p : Bool} (w : World) (hs : s.size ≤ maxLen) (h : valOk k n s = p) :
    Calls Try.prog 8 #[.agg #[.int .i64 k, .int .i64 n, .string s]] w fun e w' => e = .returned (.bool p) ∧ Below w.heap.size w w' := by
  have := impl_ok k n s w hs
  rw [h] at this
  exact this

set_option maxHeartbeats 4000000 in
theorem law_less2 (x1 : Option Addr) (l1 p1 : Nat) (x2 : Option Addr) (l2 p2 : Nat) (w : World) (g1 : l1 ≤ p1) (m1 : p1 ≤ maxLen) (g2 : l2 ≤ p2) (m2 : p2 ≤ maxLen) (hc1 : IsCode w.heap.size x1 l1 w) (hc2 : IsCode w.heap.size x2 l2 w) :
    Calls Try.prog 3 #[.slice x1 l1 p1, .slice x2 l2 p2] w fun e w' => e = .returned (.bool true) ∧ Below w.heap.size w w' := by
  have Hc1 : Hid (IsCode w.heap.size x1 l1 w) := hc1
  have Hc2 : Hid (IsCode w.heap.size x2 l2 w) := hc2
  clear hc1 hc2
  by_cases hl1 : (1048576 : Int) < l1
  · go_enter Try.func3, Try.ntmps3
    go_wp2_with fail
    go_ret
    exact ⟨rfl, Below.refl _ _⟩
  · by_cases hl2 : (1048576 : Int) < l2
    · go_enter Try.func3, Try.ntmps3
      go_wp2_with fail
      go_ret
      exact ⟨rfl, Below.refl _ _⟩
    · go_enter Try.func3, Try.ntmps3
      go_wp2_with fail
      refine (draw_less w.heap.size _ _ _ _ (Nat.le_refl _) g1 m1 Hc1.out).mono ?_
      rintro e w1 ⟨k1, n1, s1, k2, n2, s2, rfl, hs1, hs2, hb1⟩
      have Hb1 : Hid (Below w.heap.size w w1) := hb1
      have hz1 := hb1.size
      clear hb1
      go_wp2_with fail
      have hbA : Below w.heap.size w ((w1.alloc (.cells #[.int .i64 k1, .int .i64 n1, .string s1] 24)).alloc (.cells #[.int .i64 k2, .int .i64 n2, .string s2] 24)) := (Hb1.out.alloc hz1 _).alloc (by simp; omega) _
      refine (draw_less w.heap.size _ _ _ _ hbA.size g2 m2 (Hc2.out.keep hbA)).mono ?_
      rintro e w2 ⟨k3, n3, s3, k4, n4, s4, rfl, hs3, hs4, hb2⟩
      have hA := (box3 w1 (.int .i64 k1) (.int .i64 n1) (.string s1) 24).keep (alloc_below _ (.cells #[.int .i64 k2, .int .i64 n2, .string s2] 24))
      have hB := box3b w1 (.cells #[.int .i64 k1, .int .i64 n1, .string s1] 24) (.int .i64 k2) (.int .i64 n2) (.string s2) 24
      have HA : Hid (Box3 w1.heap.size (.int .i64 k1) (.int .i64 n1) (.string s1) w2) := hA.keep hb2
      have HB : Hid (Box3 (w1.heap.size + 1) (.int .i64 k2) (.int .i64 n2) (.string s2) w2) := hB.keep hb2
      have hz2 : w1.heap.size + 1 < w2.heap.size := HB.out.1
      have Hb2 : Hid (Below w.heap.size w w2) := hbA.trans (hb2.mono hbA.size)
      clear hA hB hbA hb2
      go_upto_region 5 with (fail)
      have hT : Tri w w1.heap.size w2.heap.size k1 n1 s1 k2 n2 s2 k3 n3 s3 ((w2.alloc (.cells #[.int .i64 k3, .int .i64 n3, .string s3] 24)).alloc (.cells #[.int .i64 k4, .int .i64 n4, .string s4] 24)) := tri_new HA.out HB.out Hb2.out hz1
      generalize (w2.alloc (.cells #[.int .i64 k3, .int .i64 n3, .string s3] 24)).alloc (.cells #[.int .i64 k4, .int .i64 n4, .string s4] 24) = v0 at hT ⊢
      have tv0 := hT
      clear hT HA HB Hb1 Hb2 Hc1 Hc2
      obtain ⟨p, hp⟩ : ∃ p, lessV k1 n1 s1 k2 n2 s2 = p := ⟨_, rfl⟩
      obtain ⟨r, hr⟩ : ∃ r, lessV k2 n2 s2 k1 n1 s1 = r := ⟨_, rfl⟩
      obtain ⟨q, hq⟩ : ∃ q, lessV k2 n2 s2 k3 n3 s3 = q := ⟨_, rfl⟩
      obtain ⟨u, hu⟩ : ∃ u, lessV k1 n1 s1 k3 n3 s3 = u := ⟨_, rfl⟩
      obtain ⟨o, ho⟩ : ∃ o, valOk k1 n1 s1 = o := ⟨_, rfl⟩
      obtain ⟨z, hz⟩ : ∃ z, eqV k1 n1 s1 0 0 ⟨#[]⟩ = z := ⟨_, rfl⟩
      obtain ⟨c, hc⟩ : ∃ c, eqV k1 n1 s1 k2 n2 s2 = c := ⟨_, rfl⟩
      obtain ⟨y, hy⟩ : ∃ y, lessV 0 0 ⟨#[]⟩ k1 n1 s1 = y := ⟨_, rfl⟩
      have hboth := lessV_both k1 n1 s1 k2 n2 s2
      rw [hp, hr, hc] at hboth
      have htr : p = true → q = true → u = true := fun a b => by rw [← hu]; exact lessV_trans _ _ _ _ _ _ _ _ _ (hp.trans a) (hq.trans b)
      have hle : o = true → z = false → y = true := fun a b => by rw [← hy]; exact least _ _ _ (ho.trans a) (hz.trans b)
      have hneq := run_neq k1 n1 s1 k2 n2 s2
      rw [hc] at hneq
      have heql := run_eql k1 n1 s1 0 0 ⟨#[]⟩
      rw [hz] at heql
      have Hp : Hid (lessV k1 n1 s1 k2 n2 s2 = p) := hp
      have Hrr : Hid (lessV k2 n2 s2 k1 n1 s1 = r) := hr
      have Hq : Hid (lessV k2 n2 s2 k3 n3 s3 = q) := hq
      have Hu : Hid (lessV k1 n1 s1 k3 n3 s3 = u) := hu
      have Ho : Hid (valOk k1 n1 s1 = o) := ho
      have Hy : Hid (lessV 0 0 ⟨#[]⟩ k1 n1 s1 = y) := hy
      have Htr : Hid (p = true → q = true → u = true) := htr
      have Hle : Hid (o = true → z = false → y = true) := hle
      have Hbo : Hid ((p && r) = false ∧ (p || r) = !c) := hboth
      have Hs1 : Hid (s1.size ≤ maxLen) := (show s1.size ≤ maxLen by unfold maxLen; omega)
      clear hp hr hq hu ho hy hz hc htr hle hboth
      go_wp2_with fail
      refine (less_as _ Hp.out).mono ?_
      rintro e v1 ⟨rfl, hb⟩
      have tv1 := tri_next tv0 hb
      clear hb tv0
      go_wp2_with fail
      refine (less_as _ Hrr.out).mono ?_
      rintro e v2 ⟨rfl, hb⟩
      have tv2 := tri_next tv1 hb
      clear hb tv1
      go_wp2_with fail
      refine (spec_as _ Hp.out).mono ?_
      rintro e v3 ⟨rfl, hb⟩
      have tv3 := tri_next tv2 hb
      clear hb tv2
      cases p
      · cases r
        · have hc1 : c = true := by simpa using Hbo.out.2
          subst hc1
          cases o
          · go_wp2_with fail
            refine (ok_as _ Hs1.out Ho.out).mono ?_
            rintro e v8 ⟨rfl, hb⟩
            have tv8 := tri_next tv3 hb
            clear hb tv3
            go_wp2_with fail
            go_ret
            exact ⟨rfl, tv8.2.2.2.2.2.2.2.2.2.2.2.2⟩
          · cases z
            · have hy1 := Hle.out rfl rfl
              subst hy1
              go_wp2_with fail
              refine (ok_as _ Hs1.out Ho.out).mono ?_
              rintro e v8 ⟨rfl, hb⟩
              have tv8 := tri_next tv3 hb
              clear hb tv3
              go_wp2_with fail
              refine (less_as _ Hy.out).mono ?_
              rintro e v9 ⟨rfl, hb⟩
              have tv9 := tri_next tv8 hb
              clear hb tv8
              go_wp2_with fail
              go_ret
              exact ⟨rfl, tv9.2.2.2.2.2.2.2.2.2.2.2.2⟩
            · go_wp2_with fail
              refine (ok_as _ Hs1.out Ho.out).mono ?_
              rintro e v8 ⟨rfl, hb⟩
              have tv8 := tri_next tv3 hb
              clear hb tv3
              go_wp2_with fail
              go_ret
              exact ⟨rfl, tv8.2.2.2.2.2.2.2.2.2.2.2.2⟩
        · have hc1 : c = false := by simpa using Hbo.out.2
          subst hc1
          cases o
          · go_wp2_with fail
            refine (ok_as _ Hs1.out Ho.out).mono ?_
            rintro e v8 ⟨rfl, hb⟩
            have tv8 := tri_next tv3 hb
            clear hb tv3
            go_wp2_with fail
            go_ret
            exact ⟨rfl, tv8.2.2.2.2.2.2.2.2.2.2.2.2⟩
          · cases z
            · have hy1 := Hle.out rfl rfl
              subst hy1
              go_wp2_with fail
              refine (ok_as _ Hs1.out Ho.out).mono ?_
              rintro e v8 ⟨rfl, hb⟩
              have tv8 := tri_next tv3 hb
              clear hb tv3
              go_wp2_with fail
              refine (less_as _ Hy.out).mono ?_
              rintro e v9 ⟨rfl, hb⟩
              have tv9 := tri_next tv8 hb
              clear hb tv8
              go_wp2_with fail
              go_ret
              exact ⟨rfl, tv9.2.2.2.2.2.2.2.2.2.2.2.2⟩
            · go_wp2_with fail
              refine (ok_as _ Hs1.out Ho.out).mono ?_
              rintro e v8 ⟨rfl, hb⟩
              have tv8 := tri_next tv3 hb
              clear hb tv3
              go_wp2_with fail
              go_ret
              exact ⟨rfl, tv8.2.2.2.2.2.2.2.2.2.2.2.2⟩
      · cases r
        · have hc1 : c = false := by simpa using Hbo.out.2
          subst hc1
          cases q
          · go_wp2_with fail
            refine (less_as _ Hq.out).mono ?_
            rintro e v4 ⟨rfl, hb⟩
            have tv4 := tri_next tv3 hb
            clear hb tv3
            cases o
            · go_wp2_with fail
              refine (ok_as _ Hs1.out Ho.out).mono ?_
              rintro e v8 ⟨rfl, hb⟩
              have tv8 := tri_next tv4 hb
              clear hb tv4
              go_wp2_with fail
              go_ret
              exact ⟨rfl, tv8.2.2.2.2.2.2.2.2.2.2.2.2⟩
            · cases z
              · have hy1 := Hle.out rfl rfl
                subst hy1
                go_wp2_with fail
                refine (ok_as _ Hs1.out Ho.out).mono ?_
                rintro e v8 ⟨rfl, hb⟩
                have tv8 := tri_next tv4 hb
                clear hb tv4
                go_wp2_with fail
                refine (less_as _ Hy.out).mono ?_
                rintro e v9 ⟨rfl, hb⟩
                have tv9 := tri_next tv8 hb
                clear hb tv8
                go_wp2_with fail
                go_ret
                exact ⟨rfl, tv9.2.2.2.2.2.2.2.2.2.2.2.2⟩
              · go_wp2_with fail
                refine (ok_as _ Hs1.out Ho.out).mono ?_
                rintro e v8 ⟨rfl, hb⟩
                have tv8 := tri_next tv4 hb
                clear hb tv4
                go_wp2_with fail
                go_ret
                exact ⟨rfl, tv8.2.2.2.2.2.2.2.2.2.2.2.2⟩
          · have hu1 := Htr.out rfl rfl
            subst hu1
            go_wp2_with fail
            refine (less_as _ Hq.out).mono ?_
            rintro e v4 ⟨rfl, hb⟩
            have tv4 := tri_next tv3 hb
            clear hb tv3
            go_wp2_with fail
            refine (less_as _ Hu.out).mono ?_
            rintro e v5 ⟨rfl, hb⟩
            have tv5 := tri_next tv4 hb
            clear hb tv4
            cases o
            · go_wp2_with fail
              refine (ok_as _ Hs1.out Ho.out).mono ?_
              rintro e v8 ⟨rfl, hb⟩
              have tv8 := tri_next tv5 hb
              clear hb tv5
              go_wp2_with fail
              go_ret
              exact ⟨rfl, tv8.2.2.2.2.2.2.2.2.2.2.2.2⟩
            · cases z
              · have hy1 := Hle.out rfl rfl
                subst hy1
                go_wp2_with fail
                refine (ok_as _ Hs1.out Ho.out).mono ?_
                rintro e v8 ⟨rfl, hb⟩
                have tv8 := tri_next tv5 hb
                clear hb tv5
                go_wp2_with fail
                refine (less_as _ Hy.out).mono ?_
                rintro e v9 ⟨rfl, hb⟩
                have tv9 := tri_next tv8 hb
                clear hb tv8
                go_wp2_with fail
                go_ret
                exact ⟨rfl, tv9.2.2.2.2.2.2.2.2.2.2.2.2⟩
              · go_wp2_with fail
                refine (ok_as _ Hs1.out Ho.out).mono ?_
                rintro e v8 ⟨rfl, hb⟩
                have tv8 := tri_next tv5 hb
                clear hb tv5
                go_wp2_with fail
                go_ret
                exact ⟨rfl, tv8.2.2.2.2.2.2.2.2.2.2.2.2⟩
        · exact absurd Hbo.out.1 (by decide)

end Go.Proofs.Ytcibeejabdnckaa
