/- The contracts of spec.TableNew and impl.TableNew, over the seat's translation. -/
import Derived.Test.YteckjdoiimifaaaTnA
import Derived.Test.YteckjdoiimifaaaShS6
namespace Go.Proofs.Yteckjdoiimifaaa
open Go.RowKit

/-- The box at B holds a table in W, and may be written. -/
abbrev Own4 (B : Nat) (x y z : Value) (n : Int) (W : World) : Prop :=
  W.cell? ⟨B, 0, none⟩ = some x ∧ W.cell? ⟨B, 1, none⟩ = some y ∧ W.cell? ⟨B, 2, none⟩ = some z ∧ W.cell? ⟨B, 3, none⟩ = some (.int .i64 n) ∧
    W.frozen? ⟨B, 0, none⟩ = false ∧ W.frozen? ⟨B, 1, none⟩ = false ∧ W.frozen? ⟨B, 2, none⟩ = false ∧ W.frozen? ⟨B, 3, none⟩ = false
theorem own4_next {B C : Nat} {x y z : Value} {n : Int} {W W' : World} (h : Own4 B x y z n W) (hB : B < C) (hb : Below C W W') : Own4 B x y z n W' := by
  have hc := fun o => hb.cell (p := ⟨B, o, none⟩) hB
  have hf := fun o => hb.frozen (p := ⟨B, o, none⟩) hB
  unfold Own4
  simp only [hc, hf]
  exact h
theorem own4_box (w : World) (x y z : Value) (n : Int) (t : TypeId) : Own4 w.heap.size x y z n (w.alloc (.cells #[x, y, z, .int .i64 n] t)) := by
  refine ⟨?_, ?_, ?_, ?_, ?_, ?_, ?_, ?_⟩
  all_goals go_simp
theorem NewCols.set {w : World} {b : Nat} {L : List ACol} {W : World} {B o : Nat} {v : Value} (h : NewCols w b L W) (hB : B < b) (hw : w.heap.size ≤ B) : NewCols w b L (W.setCell ⟨B, o, none⟩ v) := by
  obtain ⟨h1, h2, h3, h4, h5⟩ := h
  have ht := (Turn.refl B W).set o v
  refine ⟨h1, Nat.lt_of_lt_of_le h2 ht.size, ht.cols h3 (fun b' o' e => by cases e; omega), fun j hj => ?_, h5.setCell hw v⟩
  rw [ht.cell h2 (by omega), ht.frozen h2 (by omega)]
  exact h4 j hj
theorem NewCols.lower {w w1 : World} {b : Nat} {L : List ACol} {W : World} (h : NewCols w1 b L W) (hb : Below w.heap.size w w1) : NewCols w b L W := by
  obtain ⟨h1, h2, h3, h4, h5⟩ := h
  exact ⟨Nat.le_trans hb.size h1, h2, h3, h4, hb.trans (h5.mono hb.size)⟩
theorem alloc_next (w : World) (o : Obj) : Below w.heap.size w (w.alloc o) := (Below.refl _ _).alloc (Nat.le_refl _) o

set_option maxRecDepth 100000 in
set_option maxHeartbeats 1000000 in
theorem impl_new (b o cap : Nat) (L : List ACol) (w : World) (hL : ColsAt w (some ⟨b, o, none⟩) L) (hf : ∀ c ∈ L, c.fit) (h1 : 1 ≤ L.length) (hl : L.length ≤ 1048576) (hok : shapeOk L = true) :
    Calls Try.prog 9 #[.slice (some ⟨b, o, none⟩) L.length cap] w fun e w' => ∃ b1 cap1, e = .returned (.agg #[.slice (some ⟨b1, 0, none⟩) L.length cap1, .slice none 0 0, .slice none 0 0, .int .i64 1]) ∧ NewCols w b1 L w' := by
  have hB0 := alloc_next w (.cells #[.slice none 0 0, .slice none 0 0, .slice none 0 0, .int .i64 0] 28)
  have hO := own4_box w (.slice none 0 0) (.slice none 0 0) (.slice none 0 0) 0 28
  have HO : Hid (Own4 w.heap.size (.slice none 0 0) (.slice none 0 0) (.slice none 0 0) 0 (w.alloc (.cells #[.slice none 0 0, .slice none 0 0, .slice none 0 0, .int .i64 0] 28))) := hO
  have HL : Hid (ColsAt (w.alloc (.cells #[.slice none 0 0, .slice none 0 0, .slice none 0 0, .int .i64 0] 28)) (some ⟨b, o, none⟩) L) := hL.keep hB0
  have HB : Hid (Below w.heap.size w (w.alloc (.cells #[.slice none 0 0, .slice none 0 0, .slice none 0 0, .int .i64 0] 28))) := hB0
  clear hB0 hO hL
  go_enter Try.func9, Try.ntmps9
  go_wp2_with fail
  refine (impl_shape _ _ _ _ HL.out hf (by unfold maxLen; omega)).mono ?_
  rintro e w1 ⟨rfl, hb⟩
  have HL1 : Hid (ColsAt w1 (some ⟨b, o, none⟩) L) := HL.out.keep hb
  have HO1 : Hid (Own4 w.heap.size (.slice none 0 0) (.slice none 0 0) (.slice none 0 0) 0 w1) := own4_next HO.out (by simp) hb
  have HB1 : Hid (Below w.heap.size w w1) := HB.out.trans (hb.mono (by simp))
  have hz1 : w.heap.size < w1.heap.size := by have := hb.size; simp at this; omega
  clear HL HO HB hb
  go_wp2_with fail
  refine (fresh_cols _ _ _ _ _ HL1.out h1 hl).mono ?_
  rintro e w2 ⟨b1, cap1, rfl, hN⟩
  have HN : Hid (NewCols w1 b1 L w2) := hN
  have hO2 := own4_next HO1.out hz1 hN.2.2.2.2
  have hb1 : w.heap.size < b1 := by have := hN.1; omega
  clear hN HL1 HO1
  go_wp2_with fail
  exact bodyPost_ret (v := .agg #[.slice (some ⟨b1, 0, none⟩) L.length cap1, .slice none 0 0, .slice none 0 0, .int .i64 1]) (by simp [results, Try.results9, go_sem, hO2]) rfl ⟨_, _, rfl, ((((HN.out.lower HB1.out).set hb1 (Nat.le_refl _)).set hb1 (Nat.le_refl _)).set hb1 (Nat.le_refl _)).set hb1 (Nat.le_refl _)⟩

theorem set4 {B : Nat} {w W : World} (h : Below B w W) (x y z u : Value) : Below B w ((((W.setCell ⟨B, 0, none⟩ x).setCell ⟨B, 1, none⟩ y).setCell ⟨B, 2, none⟩ z).setCell ⟨B, 3, none⟩ u) :=
  (((h.setCell (p := ⟨B, 0, none⟩) (Nat.le_refl _) x).setCell (p := ⟨B, 1, none⟩) (Nat.le_refl _) y).setCell (p := ⟨B, 2, none⟩) (Nat.le_refl _) z).setCell (p := ⟨B, 3, none⟩) (Nat.le_refl _) u

set_option maxRecDepth 100000 in
set_option maxHeartbeats 1000000 in
theorem impl_new_bad (a : Option Addr) (cap : Nat) (L : List ACol) (w : World) (hL : ColsAt w a L) (hf : ∀ c ∈ L, c.fit) (hl : L.length ≤ maxLen) (hok : shapeOk L = false) :
    Calls Try.prog 9 #[.slice a L.length cap] w fun e w' => e = .returned (.agg #[.slice none 0 0, .slice none 0 0, .slice none 0 0, .int .i64 0]) ∧ Below w.heap.size w w' := by
  have hB0 := alloc_next w (.cells #[.slice none 0 0, .slice none 0 0, .slice none 0 0, .int .i64 0] 28)
  have hO := own4_box w (.slice none 0 0) (.slice none 0 0) (.slice none 0 0) 0 28
  have HO : Hid (Own4 w.heap.size (.slice none 0 0) (.slice none 0 0) (.slice none 0 0) 0 (w.alloc (.cells #[.slice none 0 0, .slice none 0 0, .slice none 0 0, .int .i64 0] 28))) := hO
  have HL : Hid (ColsAt (w.alloc (.cells #[.slice none 0 0, .slice none 0 0, .slice none 0 0, .int .i64 0] 28)) a L) := hL.keep hB0
  have HB : Hid (Below w.heap.size w (w.alloc (.cells #[.slice none 0 0, .slice none 0 0, .slice none 0 0, .int .i64 0] 28))) := hB0
  clear hB0 hO hL
  go_enter Try.func9, Try.ntmps9
  go_wp2_with fail
  refine (impl_shape _ _ _ _ HL.out hf hl).mono ?_
  rintro e w1 ⟨rfl, hb⟩
  have hO1 := own4_next HO.out (by simp) hb
  have HB1 : Hid (Below w.heap.size w w1) := HB.out.trans (hb.mono (by simp))
  clear HL HO HB hb
  go_wp2_with fail
  exact bodyPost_ret (v := .agg #[.slice none 0 0, .slice none 0 0, .slice none 0 0, .int .i64 0]) (by simp [results, Try.results9, go_sem, hO1]) rfl ⟨rfl, set4 HB1.out _ _ _ _⟩

set_option maxRecDepth 100000 in
set_option maxHeartbeats 1000000 in
theorem spec_new_bad (a : Option Addr) (cap : Nat) (L : List ACol) (w : World) (hL : ColsAt w a L) (hf : ∀ c ∈ L, c.fit) (hl : L.length ≤ maxLen) (hok : shapeOk L = false) :
    Calls Try.prog 7 #[.slice a L.length cap] w fun e w' => e = .returned (.agg #[.slice none 0 0, .slice none 0 0, .slice none 0 0, .int .i64 0]) ∧ Below w.heap.size w w' := by
  have hB0 := alloc_next w (.cells #[.slice none 0 0, .slice none 0 0, .slice none 0 0, .int .i64 0] 28)
  have hO := own4_box w (.slice none 0 0) (.slice none 0 0) (.slice none 0 0) 0 28
  have HO : Hid (Own4 w.heap.size (.slice none 0 0) (.slice none 0 0) (.slice none 0 0) 0 (w.alloc (.cells #[.slice none 0 0, .slice none 0 0, .slice none 0 0, .int .i64 0] 28))) := hO
  have HL : Hid (ColsAt (w.alloc (.cells #[.slice none 0 0, .slice none 0 0, .slice none 0 0, .int .i64 0] 28)) a L) := hL.keep hB0
  have HB : Hid (Below w.heap.size w (w.alloc (.cells #[.slice none 0 0, .slice none 0 0, .slice none 0 0, .int .i64 0] 28))) := hB0
  clear hB0 hO hL
  go_enter Try.func7, Try.ntmps7
  go_wp2_with fail
  refine (spec_shape _ _ _ _ HL.out hf hl).mono ?_
  rintro e w1 ⟨rfl, hb⟩
  have hO1 := own4_next HO.out (by simp) hb
  have HB1 : Hid (Below w.heap.size w w1) := HB.out.trans (hb.mono (by simp))
  clear HL HO HB hb
  go_wp2_with fail
  exact bodyPost_ret (v := .agg #[.slice none 0 0, .slice none 0 0, .slice none 0 0, .int .i64 0]) (by simp [results, Try.results7, go_sem, hO1]) rfl ⟨rfl, set4 HB1.out _ _ _ _⟩

set_option maxRecDepth 100000 in
set_option maxHeartbeats 1000000 in
theorem spec_new (b o cap : Nat) (L : List ACol) (w : World) (hL : ColsAt w (some ⟨b, o, none⟩) L) (hf : ∀ c ∈ L, c.fit) (h1 : 1 ≤ L.length) (hl : L.length ≤ 1048576) (hok : shapeOk L = true) :
    Calls Try.prog 7 #[.slice (some ⟨b, o, none⟩) L.length cap] w fun e w' => ∃ b1 cap1, e = .returned (.agg #[.slice (some ⟨b1, 0, none⟩) L.length cap1, .slice none 0 0, .slice none 0 0, .int .i64 1]) ∧ NewCols w b1 L w' := by
  obtain ⟨i0, hi, hz, hsz, hby⟩ := Try.info63
  have hby0 : (0 + L.length) * i0.bytes ≤ 140737488355328 := by
    have : (0 + L.length) * i0.bytes ≤ 1048576 * 128 := Nat.mul_le_mul (by omega) hby
    omega
  have hB0 := alloc_next w (.cells #[.slice none 0 0, .slice none 0 0, .slice none 0 0, .int .i64 0] 28)
  have hO := own4_box w (.slice none 0 0) (.slice none 0 0) (.slice none 0 0) 0 28
  have HO : Hid (Own4 w.heap.size (.slice none 0 0) (.slice none 0 0) (.slice none 0 0) 0 (w.alloc (.cells #[.slice none 0 0, .slice none 0 0, .slice none 0 0, .int .i64 0] 28))) := hO
  have HL : Hid (ColsAt (w.alloc (.cells #[.slice none 0 0, .slice none 0 0, .slice none 0 0, .int .i64 0] 28)) (some ⟨b, o, none⟩) L) := hL.keep hB0
  have HB : Hid (Below w.heap.size w (w.alloc (.cells #[.slice none 0 0, .slice none 0 0, .slice none 0 0, .int .i64 0] 28))) := hB0
  clear hB0 hO hL
  go_enter Try.func7, Try.ntmps7
  go_wp2_with fail
  refine (spec_shape _ _ _ _ HL.out hf (by unfold maxLen; omega)).mono ?_
  rintro e w1 ⟨rfl, hb⟩
  have b1b := alloc_next w1 (.cells #[] 63)
  have HO1 : Hid (Own4 w.heap.size (.slice none 0 0) (.slice none 0 0) (.slice none 0 0) 0 w1) := own4_next HO.out (by simp) hb
  have HB1 : Hid (Below w.heap.size w w1) := HB.out.trans (hb.mono (by simp))
  have hz1 : w.heap.size < w1.heap.size := by have := hb.size; simp at this; omega
  have hown0 : (w1.alloc (.cells #[] 63)).ownsRow w1.heap.size 63 7 (.slice (some ⟨w1.heap.size, 0, none⟩) 0 0) 0 [] := World.ownsRow_made w1 #[] 0 (Nat.le_refl _) (Nat.zero_le _) rfl
  have hnews : ∀ j u, (L.flatMap ACol.cells)[j]? = some u → (w1.alloc (.cells #[] 63)).cell? ((⟨b, o, none⟩ : Addr).add j) = some u := fc_cells ((HL.out.keep hb).keep b1b)
  clear HL HO HB hb
  go_wp2_with (at_builtin; refine wpList_append_own_at _ rfl _ _ 24 rfl w1.heap.size 63 i0 _ 7 i0.bytes Try.underlying24 hi hz hsz rfl rfl (by decide) _ 0 [] rfl hown0 ⟨b, o, none⟩ L.length cap (L.flatMap ACol.cells) rfl (fc_len L) hnews (fc_one L) (by unfold maxLen; omega) hby0 b1b.size ?_; intro v' w2 hown1 hgrow hnil hloc; obtain ⟨b1, cap1, rfl, H1⟩ := new_made b1b hown0 hown1 hgrow (fun e => by have := (hnil.1 e).2; omega); have HN : Hid (NewCols w1 b1 L w2) := H1; have hO2 := own4_next HO1.out hz1 H1.2.2.2.2; have hb1 : w.heap.size < b1 := Nat.lt_of_lt_of_le hz1 H1.1; clear hown1 hgrow hnil hloc hown0 hnews hby0 hi hz hsz hby HO1 H1 b1b)
  exact bodyPost_ret (v := .agg #[.slice (some ⟨b1, 0, none⟩) L.length cap1, .slice none 0 0, .slice none 0 0, .int .i64 1]) (by simp [results, Try.results7, go_sem, hO2]) rfl ⟨_, _, rfl, ((((HN.out.lower HB1.out).set hb1 (Nat.le_refl _)).set hb1 (Nat.le_refl _)).set hb1 (Nat.le_refl _)).set hb1 (Nat.le_refl _)⟩

end Go.Proofs.Yteckjdoiimifaaa
