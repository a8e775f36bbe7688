/- The contract of laws.toAct, over the seat's translation. -/
import Derived.Test.YtacindondkcaiaaGreatAcC
import Derived.Test.YtacindondkcaiaaGreatAcZ
namespace Go.Proofs.YtacindondkcaiaaGreat
open Go.RowKit

/-- The values of a list by their places. -/
def lst (L : List Value) : Nat → Value := fun j => L.getD j (.bool false)
theorem BoxF.put {B k : Nat} {L : List Value} {v : Value} {W : World} (h : BoxF B (lst L) W) (hf : FreeF B W) (hk : k < 19) (hl : L.length = 19) : BoxF B (lst (L.set k v)) (W.setCell ⟨B, k, none⟩ v) := by
  intro j hj
  by_cases hjk : j = k
  · subst hjk
    have h2 := World.rangeAt_setCells_same W B j [v] (fun i hi => by
      simp at hi
      subst hi
      refine ⟨?_, hf j hj⟩
      rw [Nat.add_zero, h j hj]
      rfl)
    have h3 : lst (L.set j v) j = v := by simp [lst, hl, hj]
    rw [h3]
    exact h2 0 v rfl
  · have h3 : lst (L.set k v) j = lst L j := by simp [lst, Ne.symm hjk]
    rw [h3]
    have h4 : W.rangeAt B j [lst L j] := fun i u hu => by
      match i with
      | 0 => simp at hu; subst hu; exact h j hj
      | i + 1 => simp at hu
    have h5 := World.rangeAt_setCells_apart h4 B k [v] (by simp; omega)
    exact h5 0 _ rfl
theorem FreeF.put {B k : Nat} {v : Value} {f : Nat → Value} {W : World} (h : FreeF B W) (hf : BoxF B f W) : FreeF B (W.setCell ⟨B, k, none⟩ v) := by
  have ht : W.there B 0 19 := fun j hj => by
    rw [Nat.zero_add]
    exact ⟨by rw [hf j hj]; rfl, h j hj⟩
  have h2 := World.there_setCells ht B k [v]
  intro j hj
  have h3 := (h2 j hj).2
  rwa [Nat.zero_add] at h3

/-- Within laws.toAct: the box of what came in, the box of the answer, and the box of what is made. -/
def Fac (w : World) (f : Nat → Value) (L : List Value) (W : World) : Prop :=
  BoxF w.heap.size f W ∧ BoxF (w.heap.size + 1) (lst [.int .i64 0, .string ⟨#[]⟩, .int .i64 0, .slice none 0 0, .slice none 0 0, .int .i64 0, .string ⟨#[]⟩, .string ⟨#[]⟩, .string ⟨#[]⟩, .int .i64 0, .bool false, .bool false, .int .i64 0, .int .i64 0, .string ⟨#[]⟩, .string ⟨#[]⟩, .string ⟨#[]⟩, .string ⟨#[]⟩, .int .i64 0]) W ∧ FreeF (w.heap.size + 1) W ∧ BoxF (w.heap.size + 1 + 1) (lst L) W ∧ FreeF (w.heap.size + 1 + 1) W ∧ w.heap.size + 3 ≤ W.heap.size ∧ Below w.heap.size w W
theorem Fac.next {w : World} {f : Nat → Value} {L : List Value} {W W' : World} (h : Fac w f L W) (hb : Below W.heap.size W W') : Fac w f L W' := by
  obtain ⟨h1, h2, h3, h4, h5, h6, h7⟩ := h
  have hz := hb.size
  exact ⟨h1.next (by omega) hb, h2.next (by omega) hb, h3.next (by omega) hb, h4.next (by omega) hb, h5.next (by omega) hb, by omega, h7.trans (hb.mono h7.size)⟩
theorem Fac.put {w : World} {f : Nat → Value} {L : List Value} {W : World} {v : Value} (k : Nat) (h : Fac w f L W) (hk : k < 19) (hl : L.length = 19) : Fac w f (L.set k v) (W.setCell ⟨w.heap.size + 1 + 1, k, none⟩ v) := by
  obtain ⟨h1, h2, h3, h4, h5, h6, h7⟩ := h
  exact ⟨h1.set (by omega), h2.set (by omega), h3.set (by omega), h4.put h5 hk hl, h5.put h4, by simpa [World.setCell] using h6, h7.setCell (by simp; omega) v⟩
theorem fac_start (x : AAct) (a0 a1 : Option Addr) (c0 c1 : Nat) (w : World) : Fac w (actF x a0 c0 a1 c1) [.int .i64 x.kd, .string x.nm, .int .i64 x.id, .slice none 0 0, .slice none 0 0, .int .i64 0, .string ⟨#[]⟩, .string ⟨#[]⟩, .string ⟨#[]⟩, .int .i64 0, .bool false, .bool false, .int .i64 0, .int .i64 0, .string ⟨#[]⟩, .string ⟨#[]⟩, .string ⟨#[]⟩, .string ⟨#[]⟩, .int .i64 0] (((w.alloc (.cells #[.int .i64 x.kd, .string x.nm, .int .i64 x.id, .slice a0 x.sets.length c0, .slice a1 x.cols.length c1, .int .i64 x.g.kd, .string x.g.nm, .string x.g.nw, .string x.g.c.nm, .int .i64 x.g.c.kd, .bool x.g.c.nd, .bool x.g.c.oc, .int .i64 x.g.c.k, .int .i64 x.g.c.n, .string x.g.c.s, .string x.l.fr, .string x.l.co, .string x.l.tt, .int .i64 x.l.hw] 33)).alloc (.cells #[.int .i64 0, .string ⟨#[]⟩, .int .i64 0, .slice none 0 0, .slice none 0 0, .int .i64 0, .string ⟨#[]⟩, .string ⟨#[]⟩, .string ⟨#[]⟩, .int .i64 0, .bool false, .bool false, .int .i64 0, .int .i64 0, .string ⟨#[]⟩, .string ⟨#[]⟩, .string ⟨#[]⟩, .string ⟨#[]⟩, .int .i64 0] 45)).alloc (.cells #[.int .i64 x.kd, .string x.nm, .int .i64 x.id, .slice none 0 0, .slice none 0 0, .int .i64 0, .string ⟨#[]⟩, .string ⟨#[]⟩, .string ⟨#[]⟩, .int .i64 0, .bool false, .bool false, .int .i64 0, .int .i64 0, .string ⟨#[]⟩, .string ⟨#[]⟩, .string ⟨#[]⟩, .string ⟨#[]⟩, .int .i64 0] 45)) := by
  have h2 := boxf_box (w.alloc (.cells #[.int .i64 x.kd, .string x.nm, .int .i64 x.id, .slice a0 x.sets.length c0, .slice a1 x.cols.length c1, .int .i64 x.g.kd, .string x.g.nm, .string x.g.nw, .string x.g.c.nm, .int .i64 x.g.c.kd, .bool x.g.c.nd, .bool x.g.c.oc, .int .i64 x.g.c.k, .int .i64 x.g.c.n, .string x.g.c.s, .string x.l.fr, .string x.l.co, .string x.l.tt, .int .i64 x.l.hw] 33)) (lst [.int .i64 0, .string ⟨#[]⟩, .int .i64 0, .slice none 0 0, .slice none 0 0, .int .i64 0, .string ⟨#[]⟩, .string ⟨#[]⟩, .string ⟨#[]⟩, .int .i64 0, .bool false, .bool false, .int .i64 0, .int .i64 0, .string ⟨#[]⟩, .string ⟨#[]⟩, .string ⟨#[]⟩, .string ⟨#[]⟩, .int .i64 0]) (.int .i64 0) (.string ⟨#[]⟩) (.int .i64 0) (.slice none 0 0) (.slice none 0 0) (.int .i64 0) (.string ⟨#[]⟩) (.string ⟨#[]⟩) (.string ⟨#[]⟩) (.int .i64 0) (.bool false) (.bool false) (.int .i64 0) (.int .i64 0) (.string ⟨#[]⟩) (.string ⟨#[]⟩) (.string ⟨#[]⟩) (.string ⟨#[]⟩) (.int .i64 0) 45 (by simp [lst])
  have f2 := freef_box (w.alloc (.cells #[.int .i64 x.kd, .string x.nm, .int .i64 x.id, .slice a0 x.sets.length c0, .slice a1 x.cols.length c1, .int .i64 x.g.kd, .string x.g.nm, .string x.g.nw, .string x.g.c.nm, .int .i64 x.g.c.kd, .bool x.g.c.nd, .bool x.g.c.oc, .int .i64 x.g.c.k, .int .i64 x.g.c.n, .string x.g.c.s, .string x.l.fr, .string x.l.co, .string x.l.tt, .int .i64 x.l.hw] 33)) (.int .i64 0) (.string ⟨#[]⟩) (.int .i64 0) (.slice none 0 0) (.slice none 0 0) (.int .i64 0) (.string ⟨#[]⟩) (.string ⟨#[]⟩) (.string ⟨#[]⟩) (.int .i64 0) (.bool false) (.bool false) (.int .i64 0) (.int .i64 0) (.string ⟨#[]⟩) (.string ⟨#[]⟩) (.string ⟨#[]⟩) (.string ⟨#[]⟩) (.int .i64 0) 45
  have h3 := boxf_box ((w.alloc (.cells #[.int .i64 x.kd, .string x.nm, .int .i64 x.id, .slice a0 x.sets.length c0, .slice a1 x.cols.length c1, .int .i64 x.g.kd, .string x.g.nm, .string x.g.nw, .string x.g.c.nm, .int .i64 x.g.c.kd, .bool x.g.c.nd, .bool x.g.c.oc, .int .i64 x.g.c.k, .int .i64 x.g.c.n, .string x.g.c.s, .string x.l.fr, .string x.l.co, .string x.l.tt, .int .i64 x.l.hw] 33)).alloc (.cells #[.int .i64 0, .string ⟨#[]⟩, .int .i64 0, .slice none 0 0, .slice none 0 0, .int .i64 0, .string ⟨#[]⟩, .string ⟨#[]⟩, .string ⟨#[]⟩, .int .i64 0, .bool false, .bool false, .int .i64 0, .int .i64 0, .string ⟨#[]⟩, .string ⟨#[]⟩, .string ⟨#[]⟩, .string ⟨#[]⟩, .int .i64 0] 45)) (lst [.int .i64 x.kd, .string x.nm, .int .i64 x.id, .slice none 0 0, .slice none 0 0, .int .i64 0, .string ⟨#[]⟩, .string ⟨#[]⟩, .string ⟨#[]⟩, .int .i64 0, .bool false, .bool false, .int .i64 0, .int .i64 0, .string ⟨#[]⟩, .string ⟨#[]⟩, .string ⟨#[]⟩, .string ⟨#[]⟩, .int .i64 0]) (.int .i64 x.kd) (.string x.nm) (.int .i64 x.id) (.slice none 0 0) (.slice none 0 0) (.int .i64 0) (.string ⟨#[]⟩) (.string ⟨#[]⟩) (.string ⟨#[]⟩) (.int .i64 0) (.bool false) (.bool false) (.int .i64 0) (.int .i64 0) (.string ⟨#[]⟩) (.string ⟨#[]⟩) (.string ⟨#[]⟩) (.string ⟨#[]⟩) (.int .i64 0) 45 (by simp [lst])
  have f3 := freef_box ((w.alloc (.cells #[.int .i64 x.kd, .string x.nm, .int .i64 x.id, .slice a0 x.sets.length c0, .slice a1 x.cols.length c1, .int .i64 x.g.kd, .string x.g.nm, .string x.g.nw, .string x.g.c.nm, .int .i64 x.g.c.kd, .bool x.g.c.nd, .bool x.g.c.oc, .int .i64 x.g.c.k, .int .i64 x.g.c.n, .string x.g.c.s, .string x.l.fr, .string x.l.co, .string x.l.tt, .int .i64 x.l.hw] 33)).alloc (.cells #[.int .i64 0, .string ⟨#[]⟩, .int .i64 0, .slice none 0 0, .slice none 0 0, .int .i64 0, .string ⟨#[]⟩, .string ⟨#[]⟩, .string ⟨#[]⟩, .int .i64 0, .bool false, .bool false, .int .i64 0, .int .i64 0, .string ⟨#[]⟩, .string ⟨#[]⟩, .string ⟨#[]⟩, .string ⟨#[]⟩, .int .i64 0] 45)) (.int .i64 x.kd) (.string x.nm) (.int .i64 x.id) (.slice none 0 0) (.slice none 0 0) (.int .i64 0) (.string ⟨#[]⟩) (.string ⟨#[]⟩) (.string ⟨#[]⟩) (.int .i64 0) (.bool false) (.bool false) (.int .i64 0) (.int .i64 0) (.string ⟨#[]⟩) (.string ⟨#[]⟩) (.string ⟨#[]⟩) (.string ⟨#[]⟩) (.int .i64 0) 45
  rw [size_alloc] at h2 f2
  rw [size_alloc, size_alloc] at h3 f3
  have h1 := boxf_box w (actF x a0 c0 a1 c1) (.int .i64 x.kd) (.string x.nm) (.int .i64 x.id) (.slice a0 x.sets.length c0) (.slice a1 x.cols.length c1) (.int .i64 x.g.kd) (.string x.g.nm) (.string x.g.nw) (.string x.g.c.nm) (.int .i64 x.g.c.kd) (.bool x.g.c.nd) (.bool x.g.c.oc) (.int .i64 x.g.c.k) (.int .i64 x.g.c.n) (.string x.g.c.s) (.string x.l.fr) (.string x.l.co) (.string x.l.tt) (.int .i64 x.l.hw) 33 (by simp [actF])
  exact ⟨(h1.next (C := w.heap.size + 1) (by omega) ((Below.refl _ _).alloc (by simp) _)).next (C := w.heap.size + 1) (by omega) ((Below.refl _ _).alloc (by simp) _), h2.next (C := w.heap.size + 1 + 1) (by omega) ((Below.refl _ _).alloc (by simp) _), f2.next (C := w.heap.size + 1 + 1) (by omega) ((Below.refl _ _).alloc (by simp) _), h3, f3, by simp, (((Below.refl w.heap.size w).alloc (Nat.le_refl _) _).alloc (by simp) _).alloc (by simp; omega) _⟩

theorem Fac.put3 {w : World} {f : Nat → Value} {v0 v1 v2 v3 v4 v5 v6 v7 v8 v9 v10 v11 v12 v13 v14 v15 v16 v17 v18 u : Value} {W : World} (h : Fac w f [v0, v1, v2, v3, v4, v5, v6, v7, v8, v9, v10, v11, v12, v13, v14, v15, v16, v17, v18] W) : Fac w f [v0, v1, v2, u, v4, v5, v6, v7, v8, v9, v10, v11, v12, v13, v14, v15, v16, v17, v18] (W.setCell ⟨w.heap.size + 1 + 1, 3, none⟩ u) := Fac.put (v := u) 3 h (by omega) rfl
theorem Fac.put4 {w : World} {f : Nat → Value} {v0 v1 v2 v3 v4 v5 v6 v7 v8 v9 v10 v11 v12 v13 v14 v15 v16 v17 v18 u : Value} {W : World} (h : Fac w f [v0, v1, v2, v3, v4, v5, v6, v7, v8, v9, v10, v11, v12, v13, v14, v15, v16, v17, v18] W) : Fac w f [v0, v1, v2, v3, u, v5, v6, v7, v8, v9, v10, v11, v12, v13, v14, v15, v16, v17, v18] (W.setCell ⟨w.heap.size + 1 + 1, 4, none⟩ u) := Fac.put (v := u) 4 h (by omega) rfl
theorem Fac.put5 {w : World} {f : Nat → Value} {v0 v1 v2 v3 v4 v5 v6 v7 v8 v9 v10 v11 v12 v13 v14 v15 v16 v17 v18 u : Value} {W : World} (h : Fac w f [v0, v1, v2, v3, v4, v5, v6, v7, v8, v9, v10, v11, v12, v13, v14, v15, v16, v17, v18] W) : Fac w f [v0, v1, v2, v3, v4, u, v6, v7, v8, v9, v10, v11, v12, v13, v14, v15, v16, v17, v18] (W.setCell ⟨w.heap.size + 1 + 1, 5, none⟩ u) := Fac.put (v := u) 5 h (by omega) rfl
theorem Fac.put6 {w : World} {f : Nat → Value} {v0 v1 v2 v3 v4 v5 v6 v7 v8 v9 v10 v11 v12 v13 v14 v15 v16 v17 v18 u : Value} {W : World} (h : Fac w f [v0, v1, v2, v3, v4, v5, v6, v7, v8, v9, v10, v11, v12, v13, v14, v15, v16, v17, v18] W) : Fac w f [v0, v1, v2, v3, v4, v5, u, v7, v8, v9, v10, v11, v12, v13, v14, v15, v16, v17, v18] (W.setCell ⟨w.heap.size + 1 + 1, 6, none⟩ u) := Fac.put (v := u) 6 h (by omega) rfl
theorem Fac.put7 {w : World} {f : Nat → Value} {v0 v1 v2 v3 v4 v5 v6 v7 v8 v9 v10 v11 v12 v13 v14 v15 v16 v17 v18 u : Value} {W : World} (h : Fac w f [v0, v1, v2, v3, v4, v5, v6, v7, v8, v9, v10, v11, v12, v13, v14, v15, v16, v17, v18] W) : Fac w f [v0, v1, v2, v3, v4, v5, v6, u, v8, v9, v10, v11, v12, v13, v14, v15, v16, v17, v18] (W.setCell ⟨w.heap.size + 1 + 1, 7, none⟩ u) := Fac.put (v := u) 7 h (by omega) rfl
theorem Fac.put8 {w : World} {f : Nat → Value} {v0 v1 v2 v3 v4 v5 v6 v7 v8 v9 v10 v11 v12 v13 v14 v15 v16 v17 v18 u : Value} {W : World} (h : Fac w f [v0, v1, v2, v3, v4, v5, v6, v7, v8, v9, v10, v11, v12, v13, v14, v15, v16, v17, v18] W) : Fac w f [v0, v1, v2, v3, v4, v5, v6, v7, u, v9, v10, v11, v12, v13, v14, v15, v16, v17, v18] (W.setCell ⟨w.heap.size + 1 + 1, 8, none⟩ u) := Fac.put (v := u) 8 h (by omega) rfl
theorem Fac.put9 {w : World} {f : Nat → Value} {v0 v1 v2 v3 v4 v5 v6 v7 v8 v9 v10 v11 v12 v13 v14 v15 v16 v17 v18 u : Value} {W : World} (h : Fac w f [v0, v1, v2, v3, v4, v5, v6, v7, v8, v9, v10, v11, v12, v13, v14, v15, v16, v17, v18] W) : Fac w f [v0, v1, v2, v3, v4, v5, v6, v7, v8, u, v10, v11, v12, v13, v14, v15, v16, v17, v18] (W.setCell ⟨w.heap.size + 1 + 1, 9, none⟩ u) := Fac.put (v := u) 9 h (by omega) rfl
theorem Fac.put10 {w : World} {f : Nat → Value} {v0 v1 v2 v3 v4 v5 v6 v7 v8 v9 v10 v11 v12 v13 v14 v15 v16 v17 v18 u : Value} {W : World} (h : Fac w f [v0, v1, v2, v3, v4, v5, v6, v7, v8, v9, v10, v11, v12, v13, v14, v15, v16, v17, v18] W) : Fac w f [v0, v1, v2, v3, v4, v5, v6, v7, v8, v9, u, v11, v12, v13, v14, v15, v16, v17, v18] (W.setCell ⟨w.heap.size + 1 + 1, 10, none⟩ u) := Fac.put (v := u) 10 h (by omega) rfl
theorem Fac.put11 {w : World} {f : Nat → Value} {v0 v1 v2 v3 v4 v5 v6 v7 v8 v9 v10 v11 v12 v13 v14 v15 v16 v17 v18 u : Value} {W : World} (h : Fac w f [v0, v1, v2, v3, v4, v5, v6, v7, v8, v9, v10, v11, v12, v13, v14, v15, v16, v17, v18] W) : Fac w f [v0, v1, v2, v3, v4, v5, v6, v7, v8, v9, v10, u, v12, v13, v14, v15, v16, v17, v18] (W.setCell ⟨w.heap.size + 1 + 1, 11, none⟩ u) := Fac.put (v := u) 11 h (by omega) rfl
theorem Fac.put12 {w : World} {f : Nat → Value} {v0 v1 v2 v3 v4 v5 v6 v7 v8 v9 v10 v11 v12 v13 v14 v15 v16 v17 v18 u : Value} {W : World} (h : Fac w f [v0, v1, v2, v3, v4, v5, v6, v7, v8, v9, v10, v11, v12, v13, v14, v15, v16, v17, v18] W) : Fac w f [v0, v1, v2, v3, v4, v5, v6, v7, v8, v9, v10, v11, u, v13, v14, v15, v16, v17, v18] (W.setCell ⟨w.heap.size + 1 + 1, 12, none⟩ u) := Fac.put (v := u) 12 h (by omega) rfl
theorem Fac.put13 {w : World} {f : Nat → Value} {v0 v1 v2 v3 v4 v5 v6 v7 v8 v9 v10 v11 v12 v13 v14 v15 v16 v17 v18 u : Value} {W : World} (h : Fac w f [v0, v1, v2, v3, v4, v5, v6, v7, v8, v9, v10, v11, v12, v13, v14, v15, v16, v17, v18] W) : Fac w f [v0, v1, v2, v3, v4, v5, v6, v7, v8, v9, v10, v11, v12, u, v14, v15, v16, v17, v18] (W.setCell ⟨w.heap.size + 1 + 1, 13, none⟩ u) := Fac.put (v := u) 13 h (by omega) rfl
theorem Fac.put14 {w : World} {f : Nat → Value} {v0 v1 v2 v3 v4 v5 v6 v7 v8 v9 v10 v11 v12 v13 v14 v15 v16 v17 v18 u : Value} {W : World} (h : Fac w f [v0, v1, v2, v3, v4, v5, v6, v7, v8, v9, v10, v11, v12, v13, v14, v15, v16, v17, v18] W) : Fac w f [v0, v1, v2, v3, v4, v5, v6, v7, v8, v9, v10, v11, v12, v13, u, v15, v16, v17, v18] (W.setCell ⟨w.heap.size + 1 + 1, 14, none⟩ u) := Fac.put (v := u) 14 h (by omega) rfl
theorem Fac.put15 {w : World} {f : Nat → Value} {v0 v1 v2 v3 v4 v5 v6 v7 v8 v9 v10 v11 v12 v13 v14 v15 v16 v17 v18 u : Value} {W : World} (h : Fac w f [v0, v1, v2, v3, v4, v5, v6, v7, v8, v9, v10, v11, v12, v13, v14, v15, v16, v17, v18] W) : Fac w f [v0, v1, v2, v3, v4, v5, v6, v7, v8, v9, v10, v11, v12, v13, v14, u, v16, v17, v18] (W.setCell ⟨w.heap.size + 1 + 1, 15, none⟩ u) := Fac.put (v := u) 15 h (by omega) rfl
theorem Fac.put16 {w : World} {f : Nat → Value} {v0 v1 v2 v3 v4 v5 v6 v7 v8 v9 v10 v11 v12 v13 v14 v15 v16 v17 v18 u : Value} {W : World} (h : Fac w f [v0, v1, v2, v3, v4, v5, v6, v7, v8, v9, v10, v11, v12, v13, v14, v15, v16, v17, v18] W) : Fac w f [v0, v1, v2, v3, v4, v5, v6, v7, v8, v9, v10, v11, v12, v13, v14, v15, u, v17, v18] (W.setCell ⟨w.heap.size + 1 + 1, 16, none⟩ u) := Fac.put (v := u) 16 h (by omega) rfl
theorem Fac.put17 {w : World} {f : Nat → Value} {v0 v1 v2 v3 v4 v5 v6 v7 v8 v9 v10 v11 v12 v13 v14 v15 v16 v17 v18 u : Value} {W : World} (h : Fac w f [v0, v1, v2, v3, v4, v5, v6, v7, v8, v9, v10, v11, v12, v13, v14, v15, v16, v17, v18] W) : Fac w f [v0, v1, v2, v3, v4, v5, v6, v7, v8, v9, v10, v11, v12, v13, v14, v15, v16, u, v18] (W.setCell ⟨w.heap.size + 1 + 1, 17, none⟩ u) := Fac.put (v := u) 17 h (by omega) rfl
theorem Fac.put18 {w : World} {f : Nat → Value} {v0 v1 v2 v3 v4 v5 v6 v7 v8 v9 v10 v11 v12 v13 v14 v15 v16 v17 v18 u : Value} {W : World} (h : Fac w f [v0, v1, v2, v3, v4, v5, v6, v7, v8, v9, v10, v11, v12, v13, v14, v15, v16, v17, v18] W) : Fac w f [v0, v1, v2, v3, v4, v5, v6, v7, v8, v9, v10, v11, v12, v13, v14, v15, v16, v17, u] (W.setCell ⟨w.heap.size + 1 + 1, 18, none⟩ u) := Fac.put (v := u) 18 h (by omega) rfl

theorem fac_see {w W : World} {x : AAct} {a0 a1 : Option Addr} {c0 c1 : Nat} {v0 v1 v2 v3 v4 v5 v6 v7 v8 v9 v10 v11 v12 v13 v14 v15 v16 v17 v18 : Value} (h : Fac w (actF x a0 c0 a1 c1) [v0, v1, v2, v3, v4, v5, v6, v7, v8, v9, v10, v11, v12, v13, v14, v15, v16, v17, v18] W) : BoxA w.heap.size (.int .i64 x.kd) (.string x.nm) (.int .i64 x.id) (.slice a0 x.sets.length c0) (.slice a1 x.cols.length c1) (.int .i64 x.g.kd) (.string x.g.nm) (.string x.g.nw) (.string x.g.c.nm) (.int .i64 x.g.c.kd) (.bool x.g.c.nd) (.bool x.g.c.oc) (.int .i64 x.g.c.k) (.int .i64 x.g.c.n) (.string x.g.c.s) (.string x.l.fr) (.string x.l.co) (.string x.l.tt) (.int .i64 x.l.hw) W ∧ BoxA (w.heap.size + 1) (.int .i64 0) (.string ⟨#[]⟩) (.int .i64 0) (.slice none 0 0) (.slice none 0 0) (.int .i64 0) (.string ⟨#[]⟩) (.string ⟨#[]⟩) (.string ⟨#[]⟩) (.int .i64 0) (.bool false) (.bool false) (.int .i64 0) (.int .i64 0) (.string ⟨#[]⟩) (.string ⟨#[]⟩) (.string ⟨#[]⟩) (.string ⟨#[]⟩) (.int .i64 0) W ∧ FreeA (w.heap.size + 1) W ∧ BoxA (w.heap.size + 1 + 1) (v0) (v1) (v2) (v3) (v4) (v5) (v6) (v7) (v8) (v9) (v10) (v11) (v12) (v13) (v14) (v15) (v16) (v17) (v18) W ∧ FreeA (w.heap.size + 1 + 1) W := ⟨h.1.all, h.2.1.all, h.2.2.1.all, h.2.2.2.1.all, h.2.2.2.2.1.all⟩

theorem cols_set {W : World} {b C o : Nat} {L : List ACol} {v : Value} (h : ColsAt W (some ⟨b, 0, none⟩) L) (hC : C < b) : ColsAt (W.setCell ⟨C, o, none⟩ v) (some ⟨b, 0, none⟩) L := by
  rcases h with h3 | ⟨b', o', e, hlt, hr⟩
  · exact Or.inl h3
  · cases e
    refine Or.inr ⟨b, 0, rfl, by simpa [World.setCell] using hlt, fun i c hc j u hu => ?_⟩
    rw [cell_set (by omega)]
    exact hr i c hc j u hu

theorem sets_set {W : World} {b C o : Nat} {L : List ASet} {v : Value} (h : SetsAt W (some ⟨b, 0, none⟩) L) (hC : C < b) : SetsAt (W.setCell ⟨C, o, none⟩ v) (some ⟨b, 0, none⟩) L := by
  rcases h with h3 | ⟨b', o', e, hlt, hr⟩
  · exact Or.inl h3
  · cases e
    refine Or.inr ⟨b, 0, rfl, by simpa [World.setCell] using hlt, fun i c hc j u hu => ?_⟩
    rw [cell_set (by omega)]
    exact hr i c hc j u hu

/-- What is done, made anew in blocks behind w, and W lies over w. -/
def NewAct (w : World) (b0 b1 : Nat) (x : AAct) (W : World) : Prop :=
  SetsAt W (some ⟨b0, 0, none⟩) x.sets ∧ ColsAt W (some ⟨b1, 0, none⟩) x.cols ∧ Below w.heap.size w W
theorem NewAct.set {w : World} {b0 b1 C o : Nat} {x : AAct} {W : World} {v : Value} (h : NewAct w b0 b1 x W) (h0 : C < b0) (h1 : C < b1) (hw : w.heap.size ≤ C) : NewAct w b0 b1 x (W.setCell ⟨C, o, none⟩ v) :=
  ⟨sets_set h.1 h0, cols_set h.2.1 h1, h.2.2.setCell hw v⟩
theorem NewAct.next {w : World} {b0 b1 : Nat} {x : AAct} {W W' : World} (h : NewAct w b0 b1 x W) (hb : Below W.heap.size W W') : NewAct w b0 b1 x W' := ⟨h.1.keep hb, h.2.1.keep hb, h.2.2.trans (hb.mono h.2.2.size)⟩
theorem NewAct.act {w : World} {b0 b1 : Nat} {x : AAct} {W : World} (h : NewAct w b0 b1 x W) : ActAt W (some ⟨b0, 0, none⟩) (some ⟨b1, 0, none⟩) x := ⟨h.1, h.2.1⟩

end Go.Proofs.YtacindondkcaiaaGreat
