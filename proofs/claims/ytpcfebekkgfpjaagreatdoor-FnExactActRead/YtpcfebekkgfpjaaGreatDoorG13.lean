/- The contracts of the methods words of what is done, over the seat's translation. -/
import Derived.Test.YtpcfebekkgfpjaaGreatDoorG12
import Derived.Deep.RegionHeld3
import Derived.Deep.AppendSrc
import Derived.Deep.AppendLies
namespace Go.Proofs.YtpcfebekkgfpjaaGreatDoor
open Go.RowKit

/-- A list of words, newly made, and W lies over w. -/
def WordsAt (w : World) (v : Value) (L : List Bs) (W : World) : Prop :=
  ∃ (g cap : Nat) (ws : List ByteArray), v = .slice (some ⟨g, 0, none⟩) ws.length cap ∧ ws.length ≤ cap ∧ (∀ (j : Nat) x, ws[j]? = some x → W.cell? ⟨g, 0 + j, none⟩ = some (.string x)) ∧ g < W.heap.size ∧ ws.map (·.data.toList) = L ∧ Below w.heap.size w W
theorem words_box {w W : World} (ws : List ByteArray) (t : TypeId) (hb : Below w.heap.size w W) : WordsAt w (.slice (some ⟨W.heap.size, 0, none⟩) ws.length ws.length) (ws.map (·.data.toList)) (W.alloc (.cells (ws.map Value.string).toArray t)) :=
  ⟨W.heap.size, ws.length, ws, rfl, Nat.le_refl _, fun j x hx => range_box W (ws.map Value.string) t j _ (by simp [hx]), by simp, rfl, hb.alloc hb.size _⟩

theorem itoa_call (n : Int) (w : World) (h0 : 0 ≤ n) (h1 : n ≤ 60) (htab : Tb w) : Calls Tryz.prog 133 #[.int .i64 n] w fun e w' => e = .returned (.string ⟨(Lib.itoa n).toArray⟩) ∧ Below w.heap.size w w' := by
  refine (Tryz.strconv_Itoa _ (by omega) (by omega) _ htab).mono ?_
  rintro e w2 ⟨rfl, q, os, rfl⟩
  exact ⟨rfl, below_grow _ _ _⟩
theorem how_call (k : Int) (w : World) : Calls Tryz.prog 94 #[.int .i64 k] w fun e w' => e = .returned (.string (howS k)) ∧ Below w.heap.size w w' := (how_word k w).mono fun _ _ ⟨he, hw⟩ => ⟨he, hw ▸ Below.refl _ _⟩
theorem kind_call (k : Int) (w : World) : Calls Tryz.prog 96 #[.int .i64 k] w fun e w' => e = .returned (.string (kindS k)) ∧ Below w.heap.size w w' := (kind_word k w).mono fun _ _ ⟨he, hw⟩ => ⟨he, hw ▸ Below.refl _ _⟩

/-- A box of 8 values, the table, and W lies over w. -/
abbrev S8 (w : World) (v0 v1 v2 v3 v4 v5 v6 v7 : Value) (W : World) : Prop := W.cell? ⟨w.heap.size, 0, none⟩ = some v0 ∧ W.cell? ⟨w.heap.size, 1, none⟩ = some v1 ∧ W.cell? ⟨w.heap.size, 2, none⟩ = some v2 ∧ W.cell? ⟨w.heap.size, 3, none⟩ = some v3 ∧ W.cell? ⟨w.heap.size, 4, none⟩ = some v4 ∧ W.cell? ⟨w.heap.size, 5, none⟩ = some v5 ∧ W.cell? ⟨w.heap.size, 6, none⟩ = some v6 ∧ W.cell? ⟨w.heap.size, 7, none⟩ = some v7 ∧ BoxL w w.heap.size [v0, v1, v2, v3, v4, v5, v6, v7] W ∧ Tb W
theorem S8.of {w : World} {v0 v1 v2 v3 v4 v5 v6 v7 : Value} {W : World} (h : BoxL w w.heap.size [v0, v1, v2, v3, v4, v5, v6, v7] W) (ht : Tb W) : S8 w v0 v1 v2 v3 v4 v5 v6 v7 W := ⟨(box8 h.1).1, (box8 h.1).2.1, (box8 h.1).2.2.1, (box8 h.1).2.2.2.1, (box8 h.1).2.2.2.2.1, (box8 h.1).2.2.2.2.2.1, (box8 h.1).2.2.2.2.2.2.1, (box8 h.1).2.2.2.2.2.2.2, h, ht⟩
theorem S8.next {w : World} {v0 v1 v2 v3 v4 v5 v6 v7 : Value} {W W' : World} (h : S8 w v0 v1 v2 v3 v4 v5 v6 v7 W) (hb : Below W.heap.size W W') : S8 w v0 v1 v2 v3 v4 v5 v6 v7 W' := S8.of (h.2.2.2.2.2.2.2.2.1.next hb) (tb_next h.2.2.2.2.2.2.2.2.2 hb)

/-- A box of 4 values, the table, and W lies over w. -/
abbrev S4 (w : World) (v0 v1 v2 v3 : Value) (W : World) : Prop := W.cell? ⟨w.heap.size, 0, none⟩ = some v0 ∧ W.cell? ⟨w.heap.size, 1, none⟩ = some v1 ∧ W.cell? ⟨w.heap.size, 2, none⟩ = some v2 ∧ W.cell? ⟨w.heap.size, 3, none⟩ = some v3 ∧ BoxL w w.heap.size [v0, v1, v2, v3] W ∧ Tb W
theorem S4.of {w : World} {v0 v1 v2 v3 : Value} {W : World} (h : BoxL w w.heap.size [v0, v1, v2, v3] W) (ht : Tb W) : S4 w v0 v1 v2 v3 W := ⟨(box4 h.1).1, (box4 h.1).2.1, (box4 h.1).2.2.1, (box4 h.1).2.2.2, h, ht⟩
theorem S4.next {w : World} {v0 v1 v2 v3 : Value} {W W' : World} (h : S4 w v0 v1 v2 v3 W) (hb : Below W.heap.size W W') : S4 w v0 v1 v2 v3 W' := S4.of (h.2.2.2.2.1.next hb) (tb_next h.2.2.2.2.2 hb)

/-- A box of 3 values, the table, and W lies over w. -/
abbrev S3 (w : World) (v0 v1 v2 : Value) (W : World) : Prop := W.cell? ⟨w.heap.size, 0, none⟩ = some v0 ∧ W.cell? ⟨w.heap.size, 1, none⟩ = some v1 ∧ W.cell? ⟨w.heap.size, 2, none⟩ = some v2 ∧ BoxL w w.heap.size [v0, v1, v2] W ∧ Tb W
theorem S3.of {w : World} {v0 v1 v2 : Value} {W : World} (h : BoxL w w.heap.size [v0, v1, v2] W) (ht : Tb W) : S3 w v0 v1 v2 W := ⟨(box3 h.1).1, (box3 h.1).2.1, (box3 h.1).2.2, h, ht⟩
theorem S3.next {w : World} {v0 v1 v2 : Value} {W W' : World} (h : S3 w v0 v1 v2 W) (hb : Below W.heap.size W W') : S3 w v0 v1 v2 W' := S3.of (h.2.2.2.1.next hb) (tb_next h.2.2.2.2 hb)

/-- A box of 2 values, the table, and W lies over w. -/
abbrev S2 (w : World) (v0 v1 : Value) (W : World) : Prop := W.cell? ⟨w.heap.size, 0, none⟩ = some v0 ∧ W.cell? ⟨w.heap.size, 1, none⟩ = some v1 ∧ BoxL w w.heap.size [v0, v1] W ∧ Tb W
theorem S2.of {w : World} {v0 v1 : Value} {W : World} (h : BoxL w w.heap.size [v0, v1] W) (ht : Tb W) : S2 w v0 v1 W := ⟨(box2 h.1).1, (box2 h.1).2, h, ht⟩
theorem S2.next {w : World} {v0 v1 : Value} {W W' : World} (h : S2 w v0 v1 W) (hb : Below W.heap.size W W') : S2 w v0 v1 W' := S2.of (h.2.2.1.next hb) (tb_next h.2.2.2 hb)

set_option maxRecDepth 100000 in
set_option maxHeartbeats 2000000 in
theorem drop_words (nm co : ByteArray) (w : World) : Calls Tryz.prog 259 #[.agg #[.string nm, .string co]] w fun e w' => ∃ v, e = .returned v ∧ WordsAt w v [[100, 114, 111, 112], nm.data.toList, co.data.toList] w' := by
  have h := words_box (w := w) (W := w.alloc (.cells #[.string nm, .string co] 107)) [⟨#[100, 114, 111, 112]⟩, nm, co] 9 ((Below.refl _ _).alloc (Nat.le_refl _) _)
  rw [size_alloc] at h
  go_enter Tryz.func259, Tryz.ntmps259
  go_wp2_with fail
  go_ret
  exact ⟨_, rfl, h⟩

set_option maxRecDepth 100000 in
set_option maxHeartbeats 2000000 in
theorem named_words (nm co tt : ByteArray) (w : World) : Calls Tryz.prog 263 #[.agg #[.string nm, .string co, .string tt]] w fun e w' => ∃ v, e = .returned v ∧ WordsAt w v [[110, 97, 109, 101], nm.data.toList, co.data.toList, tt.data.toList] w' := by
  have h := words_box (w := w) (W := w.alloc (.cells #[.string nm, .string co, .string tt] 109)) [⟨#[110, 97, 109, 101]⟩, nm, co, tt] 9 ((Below.refl _ _).alloc (Nat.le_refl _) _)
  rw [size_alloc] at h
  go_enter Tryz.func263, Tryz.ntmps263
  go_wp2_with fail
  go_ret
  exact ⟨_, rfl, h⟩

set_option maxRecDepth 100000 in
set_option maxHeartbeats 2000000 in
theorem add_words (nm : ByteArray) (c : ACol) (w : World) (hok : c.ok = true) (htab : Tb w) : Calls Tryz.prog 254 #[.agg #[.string nm, .string c.nm, .int .i64 c.kd, .bool c.nd, .bool c.oc, .int .i64 c.k, .int .i64 c.n, .string c.s]] w fun e w' => ∃ v, e = .returned v ∧ WordsAt w v [[97, 100, 100], nm.data.toList, colW c] w' := by
  have h0 : S8 w (.string nm) (.string c.nm) (.int .i64 c.kd) (.bool c.nd) (.bool c.oc) (.int .i64 c.k) (.int .i64 c.n) (.string c.s) (w.alloc (.cells #[.string nm, .string c.nm, .int .i64 c.kd, .bool c.nd, .bool c.oc, .int .i64 c.k, .int .i64 c.n, .string c.s] 105)) := S8.of (BoxL.start _ _ _) (tb_next htab ((Below.refl _ _).alloc (Nat.le_refl _) _))
  clear htab
  go_enter Tryz.func254, Tryz.ntmps254
  go_wp2_with fail
  go_region_held3 (fun W => S8 w (.string nm) (.string c.nm) (.int .i64 c.kd) (.bool c.nd) (.bool c.oc) (.int .i64 c.k) (.int .i64 c.n) (.string c.s) W) (first | assumption | exact S8.next (by assumption) (Below.refl _ _).drew | exact S8.next (by assumption) ((Below.refl _ _).alloc (Nat.le_refl _) _)) ((go_at_call 224; have hS := ‹S8 w (.string nm) (.string c.nm) (.int .i64 c.kd) (.bool c.nd) (.bool c.oc) (.int .i64 c.k) (.int .i64 c.n) (.string c.s) _›; refine (col_word c _ hok hS.2.2.2.2.2.2.2.2.2).mono ?_; rintro e w2 ⟨y, rfl, hy, hq⟩; have hC := S8.next hS hq; clear hS hq))
  have h := words_box (w := w) (W := w2) [⟨#[97, 100, 100]⟩, nm, y] 9 hC.2.2.2.2.2.2.2.2.1.2.2
  simp only [List.map_cons, List.map_nil, hy] at h
  have HW : Hid (WordsAt w _ _ _) := h
  clear h hC
  go_wp2_with fail
  go_ret
  exact ⟨_, rfl, HW.out⟩

set_option maxRecDepth 100000 in
set_option maxHeartbeats 2000000 in
theorem link_words (l : ALnk) (w : World)  (htab : Tb w) : Calls Tryz.prog 232 #[.agg #[.string l.fr, .string l.co, .string l.tt, .int .i64 l.hw]] w fun e w' => ∃ v, e = .returned v ∧ WordsAt w v [[108, 105, 110, 107], l.fr.data.toList, l.co.data.toList, l.tt.data.toList, howB l.hw] w' := by
  have h0 : S4 w (.string l.fr) (.string l.co) (.string l.tt) (.int .i64 l.hw) (w.alloc (.cells #[.string l.fr, .string l.co, .string l.tt, .int .i64 l.hw] 85)) := S4.of (BoxL.start _ _ _) (tb_next htab ((Below.refl _ _).alloc (Nat.le_refl _) _))
  clear htab
  go_enter Tryz.func232, Tryz.ntmps232
  go_wp2_with fail
  go_region_held3 (fun W => S4 w (.string l.fr) (.string l.co) (.string l.tt) (.int .i64 l.hw) W) (first | assumption | exact S4.next (by assumption) (Below.refl _ _).drew | exact S4.next (by assumption) ((Below.refl _ _).alloc (Nat.le_refl _) _)) ((go_at_call 94; have hS := ‹S4 w (.string l.fr) (.string l.co) (.string l.tt) (.int .i64 l.hw) _›; refine (how_call l.hw _).mono ?_; rintro e w2 ⟨rfl, hq⟩; have hC := S4.next hS hq; clear hS hq))
  have h := words_box (w := w) (W := w2) [⟨#[108, 105, 110, 107]⟩, l.fr, l.co, l.tt, howS l.hw] 9 hC.2.2.2.2.1.2.2
  have HW : Hid (WordsAt w _ _ _) := h
  clear h hC
  go_wp2_with fail
  go_ret
  exact ⟨_, rfl, HW.out⟩

set_option maxRecDepth 100000 in
set_option maxHeartbeats 2000000 in
theorem kindd_words (nm co : ByteArray) (k : Int) (w : World)  (htab : Tb w) : Calls Tryz.prog 267 #[.agg #[.string nm, .string co, .int .i64 k]] w fun e w' => ∃ v, e = .returned v ∧ WordsAt w v [[107, 105, 110, 100], nm.data.toList, co.data.toList, kindB k] w' := by
  have h0 : S3 w (.string nm) (.string co) (.int .i64 k) (w.alloc (.cells #[.string nm, .string co, .int .i64 k] 111)) := S3.of (BoxL.start _ _ _) (tb_next htab ((Below.refl _ _).alloc (Nat.le_refl _) _))
  clear htab
  go_enter Tryz.func267, Tryz.ntmps267
  go_wp2_with fail
  go_region_held3 (fun W => S3 w (.string nm) (.string co) (.int .i64 k) W) (first | assumption | exact S3.next (by assumption) (Below.refl _ _).drew | exact S3.next (by assumption) ((Below.refl _ _).alloc (Nat.le_refl _) _)) ((go_at_call 96; have hS := ‹S3 w (.string nm) (.string co) (.int .i64 k) _›; refine (kind_call k _).mono ?_; rintro e w2 ⟨rfl, hq⟩; have hC := S3.next hS hq; clear hS hq))
  have h := words_box (w := w) (W := w2) [⟨#[107, 105, 110, 100]⟩, nm, co, kindS k] 9 hC.2.2.2.1.2.2
  have HW : Hid (WordsAt w _ _ _) := h
  clear h hC
  go_wp2_with fail
  go_ret
  exact ⟨_, rfl, HW.out⟩

set_option maxRecDepth 100000 in
set_option maxHeartbeats 2000000 in
theorem off_words (nm : ByteArray) (id : Int) (w : World) (hi0 : 0 ≤ id) (hi1 : id ≤ 60) (htab : Tb w) : Calls Tryz.prog 250 #[.agg #[.string nm, .int .i64 id]] w fun e w' => ∃ v, e = .returned v ∧ WordsAt w v [[111, 102, 102], nm.data.toList, Lib.itoa id] w' := by
  have h0 : S2 w (.string nm) (.int .i64 id) (w.alloc (.cells #[.string nm, .int .i64 id] 91)) := S2.of (BoxL.start _ _ _) (tb_next htab ((Below.refl _ _).alloc (Nat.le_refl _) _))
  clear htab
  go_enter Tryz.func250, Tryz.ntmps250
  go_wp2_with fail
  go_region_held3 (fun W => S2 w (.string nm) (.int .i64 id) W) (first | assumption | exact S2.next (by assumption) (Below.refl _ _).drew | exact S2.next (by assumption) ((Below.refl _ _).alloc (Nat.le_refl _) _)) ((go_at_call 133; have hS := ‹S2 w (.string nm) (.int .i64 id) _›; refine (itoa_call id _ hi0 hi1 hS.2.2.2).mono ?_; rintro e w2 ⟨rfl, hq⟩; have hC := S2.next hS hq; clear hS hq))
  have h := words_box (w := w) (W := w2) [⟨#[111, 102, 102]⟩, nm, ⟨(Lib.itoa id).toArray⟩] 9 hC.2.2.1.2.2
  have HW : Hid (WordsAt w _ _ _) := h
  clear h hC
  go_wp2_with fail
  go_ret
  exact ⟨_, rfl, HW.out⟩

end Go.Proofs.YtpcfebekkgfpjaaGreatDoor

/- Words put behind words by append, over the seat's translation. -/
namespace Go.Proofs.YtpcfebekkgfpjaaGreatDoor
open Go.RowKit

theorem range_pre (w : World) (cs : List Value) (r : Array Value) (t : TypeId) : (w.alloc (.cells (cs.toArray ++ r) t)).rangeAt w.heap.size 0 cs := fun j v hv => by
  have hb : (w.alloc (.cells (cs.toArray ++ r) t)).heap[w.heap.size]? = some (.cells (cs.toArray ++ r) t) := by
    show (w.heap.push _)[w.heap.size]? = _
    simp
  have hj := (List.getElem?_eq_some_iff.1 hv).1
  simp only [World.cell?, hb, Nat.zero_add]
  rw [Array.getElem?_append_left (by simpa using hj)]
  simpa using hv
theorem small_cap : ∀ a, a < 21 → ∀ b, b < 21 → Builtin.nextslicecap a b ≤ 64 := by decide +kernel

/-- Words behind words: the list of all, made anew or as it was. -/
theorem app_words {W : World} {base : Nat} (ty : TypeId) (g : Nat) (ds ws : List ByteArray) (v : Value) (hd : W.rangeAt g 0 (ds.map Value.string)) (hg : g < W.heap.size)
    (hv : W.ownsRow base 9 1 v ws.length (ws.map Value.string)) (hl : ds.length + ws.length ≤ 20) :
    ∃ v' W', (Builtin.append_ #[50, 50] ty #[.slice (some ⟨g, 0, none⟩) ds.length ds.length, v]).run Tryz.prog W = .ok v' W' ∧
      (∃ g' cap, v' = .slice (some ⟨g', 0, none⟩) (ds ++ ws).length cap ∧ (ds ++ ws).length ≤ cap ∧ W'.rangeAt g' 0 ((ds ++ ws).map Value.string) ∧ g' < W'.heap.size) ∧ Below W.heap.size W W' := by
  obtain ⟨i0, hi, hz, hsz, hby⟩ := Tryz.infoS
  have hone : ∀ u ∈ ws.map Value.string, u.oneCell' = true := by
    intro u hu
    obtain ⟨x, _, rfl⟩ := List.mem_map.1 hu
    rfl
  by_cases h0 : ws = []
  · subst h0
    have hsrc : Src Tryz.prog i0.size 50 v 0 [] W := by
      rcases hv.2 with ⟨rfl, _⟩ | ⟨g2, cap, cur, rfl, _⟩
      · exact Src.ofNil W Tryz.underlying50 0
      · exact Src.ofSlice W Tryz.underlying50 _ 0 cap [] (by simp) (fun j u hu => by simp at hu) (fun u hu => by simp at hu)
    refine ⟨_, _, run_append_room_src W 50 50 ty 9 i0 Tryz.underlying50 hi g 0 ds.length ds.length v 0 [] hsrc (by omega) (fun j hj => by simp at hj) (fun j hj => by simp at hj), ⟨g, ds.length, by simp, by simp, by rw [List.append_nil]; exact hd, hg⟩, Below.refl _ _⟩
  · have hn : 0 < ws.length := List.length_pos_iff.2 h0
    rcases hv.2 with ⟨_, h⟩ | ⟨g2, cap, cur, rfl, _, hh, hnc, _, hcs, htake⟩
    · omega
    · have hnews : ∀ (j : Nat) u, (ws.map Value.string)[j]? = some u → W.cell? ((⟨g2, 0, none⟩ : Addr).add j) = some u := fun j u hu => by
        refine World.news_of_block hh j u ?_
        rw [← htake] at hu
        rw [List.getElem?_take] at hu
        split at hu
        · exact hu
        · cases hu
      have hsrc : Src Tryz.prog i0.size 50 (.slice (some ⟨g2, 0, none⟩) ws.length cap) ws.length (ws.map Value.string) W := Src.ofSlice W Tryz.underlying50 _ _ cap _ (by simp [hsz]) hnews hone
      have hold : (Builtin.firstCells i0.size ds.length (.slice (some ⟨g, 0, none⟩) ds.length ds.length)).run Tryz.prog W.drew = .ok (ds.map Value.string).toArray W.drew :=
        run_firstCells_some W.drew i0.size ds.length ⟨g, 0, none⟩ ds.length ds.length (ds.map Value.string) (by simp [hsz]) (fun j u hu => by rw [Addr.add_mid]; exact hd j u hu)
      have hfit : Builtin.nextslicecap (ds.length + ws.length) ds.length * i0.bytes ≤ 281474976710656 := by
        have h1 := small_cap (ds.length + ws.length) (by omega) ds.length (by omega)
        have := Nat.mul_le_mul h1 hby
        omega
      have hr := run_append_grow_src W 50 50 ty 9 i0 _ Tryz.underlying50 hi hz (some ⟨g, 0, none⟩) ds.length ds.length (ds.map Value.string) hold _ ws.length (ws.map Value.string) hsrc (by omega) (by omega) hfit
      refine ⟨_, _, hr, ⟨W.heap.size, _, by rw [List.length_append], by rw [List.length_append]; exact grownCap_ge W _ _ _, ?_, by simp⟩, ((Below.refl _ _).drew).alloc (Nat.le_refl _) _⟩
      rw [List.map_append]
      exact range_pre W.drew _ _ _

/-- The same as one step of a region that draws. -/
theorem step_words {ops : Array Oper} {o : Oper} {a : Act} {W : World} {K : Act → World → Prop} {Q : Exit → Act → World → Prop} {E : Prop} {base : Nat}
    (d : Option Tmp) (hd : o.dst = d) (hg : o.guard = none) (s x : Operand) (hop : o.op = Op.call { callee := Callee.builtin Builtin.append, args := #[s, x], argTypes := #[50, 50] })
    (g : Nat) (ds ws : List ByteArray) (v : Value) (hs : a.eval s = .slice (some ⟨g, 0, none⟩) ds.length ds.length) (hx : a.eval x = v)
    (hr : W.rangeAt g 0 (ds.map Value.string)) (hgl : g < W.heap.size) (hv : W.ownsRow base 9 1 v ws.length (ws.map Value.string)) (hl : ds.length + ws.length ≤ 20)
    (hK : ∀ v' W', (∃ g' cap, v' = .slice (some ⟨g', 0, none⟩) (ds ++ ws).length cap ∧ (ds ++ ws).length ≤ cap ∧ W'.rangeAt g' 0 ((ds ++ ws).map Value.string) ∧ g' < W'.heap.size) → Below W.heap.size W W' → K (a.put d v') W') :
    if Region.wanted o (yielded ops a.tmps) = true then Oper.wp Tryz.prog o a W K Q else E := by
  subst hd
  have hw : Region.wanted o (yielded ops a.tmps) = true := by simp [Region.wanted, hg]
  rw [if_pos hw]
  obtain ⟨v', w', hrn, h2, h3⟩ := app_words (W := W) o.type g ds ws v hr hgl hv hl
  unfold Oper.wp
  simp [execOp, hop, resolve, invoke, builtin, hs, hx, hrn, Result.andThen]
  exact hK v' w' h2 h3
theorem words_of {w W : World} {v : Value} {ds ws : List ByteArray} {L : List Bs} (h : ∃ g' cap, v = .slice (some ⟨g', 0, none⟩) (ds ++ ws).length cap ∧ (ds ++ ws).length ≤ cap ∧ W.rangeAt g' 0 ((ds ++ ws).map Value.string) ∧ g' < W.heap.size) (hL : (ds ++ ws).map (·.data.toList) = L) (hb : Below w.heap.size w W) : WordsAt w v L W := by
  obtain ⟨g', cap, rfl, hc, hr, hg⟩ := h
  exact ⟨g', cap, ds ++ ws, rfl, hc, fun j x hx => hr j _ (by rw [List.getElem?_map, hx]; rfl), hg, hL, hb⟩

end Go.Proofs.YtpcfebekkgfpjaaGreatDoor

/- The contracts of the methods words of a table and of what is put, over the seat's translation. -/
namespace Go.Proofs.YtpcfebekkgfpjaaGreatDoor
open Go.RowKit

theorem len_map {α : Type} {f : α → Bs} {ws : List ByteArray} {L : List α} (h : ws.map (·.data.toList) = L.map f) : ws.length = L.length := by simpa using congrArg List.length h
theorem map_two {x y : ByteArray} {ws : List ByteArray} {M : List Bs} (h : ws.map (·.data.toList) = M) : ([x, y] ++ ws).map (·.data.toList) = x.data.toList :: y.data.toList :: M := by rw [← h]; rfl
theorem new_lt (W : World) (o : Obj) : W.heap.size < (W.alloc o).drew.heap.size := by show W.heap.size < (W.heap.push o).size; simp
theorem range_boxd (w : World) (cs : List Value) (t : TypeId) : (w.alloc (.cells cs.toArray t)).drew.rangeAt w.heap.size 0 cs := range_box w cs t
theorem len_two {x y : ByteArray} {ws : List ByteArray} (h : ws.length ≤ 5) : [x, y].length + ws.length ≤ 20 := by show 2 + ws.length ≤ 20; omega


/-- A box of 2 values, a list that it holds, the table, and W lies over w. -/
abbrev SC (w : World) (v0 v1 : Value) (a : Option Addr) (L : List ACol) (W : World) : Prop := W.cell? ⟨w.heap.size, 0, none⟩ = some v0 ∧ W.cell? ⟨w.heap.size, 1, none⟩ = some v1 ∧ BoxL w w.heap.size [v0, v1] W ∧ Tb W ∧ ColsAt W a L
theorem SC.of {w : World} {v0 v1 : Value} {a : Option Addr} {L : List ACol} {W : World} (h : BoxL w w.heap.size [v0, v1] W) (ht : Tb W) (hl : ColsAt W a L) : SC w v0 v1 a L W := ⟨(box2 h.1).1, (box2 h.1).2, h, ht, hl⟩
theorem SC.next {w : World} {v0 v1 : Value} {a : Option Addr} {L : List ACol} {W W' : World} (h : SC w v0 v1 a L W) (hb : Below W.heap.size W W') : SC w v0 v1 a L W' := SC.of (h.2.2.1.next hb) (tb_next h.2.2.2.1 hb) (h.2.2.2.2.keep hb)

/-- A box of 2 values, a list that it holds, the table, and W lies over w. -/
abbrev SS (w : World) (v0 v1 : Value) (a : Option Addr) (L : List ASet) (W : World) : Prop := W.cell? ⟨w.heap.size, 0, none⟩ = some v0 ∧ W.cell? ⟨w.heap.size, 1, none⟩ = some v1 ∧ BoxL w w.heap.size [v0, v1] W ∧ Tb W ∧ SetsAt W a L
theorem SS.of {w : World} {v0 v1 : Value} {a : Option Addr} {L : List ASet} {W : World} (h : BoxL w w.heap.size [v0, v1] W) (ht : Tb W) (hl : SetsAt W a L) : SS w v0 v1 a L W := ⟨(box2 h.1).1, (box2 h.1).2, h, ht, hl⟩
theorem SS.next {w : World} {v0 v1 : Value} {a : Option Addr} {L : List ASet} {W W' : World} (h : SS w v0 v1 a L W) (hb : Below W.heap.size W W') : SS w v0 v1 a L W' := SS.of (h.2.2.1.next hb) (tb_next h.2.2.2.1 hb) (h.2.2.2.2.keep hb)

set_option maxRecDepth 100000 in
set_option maxHeartbeats 4000000 in
theorem table_words (nm : ByteArray) (a : Option Addr) (cap : Nat) (L : List ACol) (w : World) (hL : ColsAt w a L) (hok : ∀ c ∈ L, c.ok = true) (hm : L.length ≤ 5) (htab : Tb w) : Calls Tryz.prog 219 #[.agg #[.string nm, .slice a L.length cap]] w fun e w' => ∃ v, e = .returned v ∧ WordsAt w v ([116, 97, 98, 108, 101] :: nm.data.toList :: L.map colW) w' := by
  have b0 : Below w.heap.size w (w.alloc (.cells #[.string nm, .slice a L.length cap] 83)) := (Below.refl _ _).alloc (Nat.le_refl _) _
  have h0 : SC w (.string nm) (.slice a L.length cap) a L (w.alloc (.cells #[.string nm, .slice a L.length cap] 83)) := SC.of (BoxL.start _ _ _) (tb_next htab b0) (hL.keep b0)
  clear htab hL b0
  go_enter Tryz.func219, Tryz.ntmps219
  go_wp2_with fail
  generalize w.alloc (.cells #[.string nm, .slice a L.length cap] 83) = W0 at *
  first | (go_region_held3 (fun W => SC w (.string nm) (.slice a L.length cap) a L W) (first | assumption | exact SC.next (by assumption) (Below.refl _ _).drew | exact SC.next (by assumption) ((Below.refl _ _).alloc (Nat.le_refl _) _))
    (first
      | (go_at_call 223; have hS := ‹SC w (.string nm) (.slice a L.length cap) a L _›; refine (each_cols a cap L _ hS.2.2.2.2 hok hm hS.2.2.2.1).mono ?_; rintro e w6 ⟨v6, ws, rfl, hO6, hw6⟩; have hC6 := SC.next hS hO6.2; have hl6 : ws.length ≤ 5 := Nat.le_trans (Nat.le_of_eq (len_map hw6)) hm; clear hS)
      | (refine step_words (some 9) rfl rfl _ _ rfl w6.heap.size [(⟨#[116, 97, 98, 108, 101]⟩ : ByteArray), nm] ws v6 rfl rfl (range_box w6 ([(⟨#[116, 97, 98, 108, 101]⟩ : ByteArray), nm].map Value.string) 9) (by simp) (own_keep hO6.1 ((Below.refl _ _).alloc (Nat.le_refl _) _)) (len_two hl6) ?_; intro v' w7 h7 hb7; have hC7 := SC.next (SC.next hC6 ((Below.refl _ _).alloc (Nat.le_refl _) _)) hb7; (try simp only [Act.put, List.setIfInBounds_toArray, List.set_cons_zero, List.set_cons_succ]); have HW : Hid (WordsAt w v' ([116, 97, 98, 108, 101] :: nm.data.toList :: L.map colW) w7) := words_of h7 (map_two hw6) hC7.2.2.1.2.2; clear h7 hb7 hO6 hC6 hw6 hl6)
      | (refine step_words (some 9) rfl rfl _ _ rfl W0.heap.size [(⟨#[116, 97, 98, 108, 101]⟩ : ByteArray), nm] ws v6 rfl rfl (range_next (W := (W0.alloc (.cells ([(⟨#[116, 97, 98, 108, 101]⟩ : ByteArray), nm].map Value.string).toArray 9)).drew) (range_boxd W0 ([(⟨#[116, 97, 98, 108, 101]⟩ : ByteArray), nm].map Value.string) 9) (new_lt W0 _) hO6.2) (Nat.lt_of_lt_of_le (new_lt W0 _) hO6.2.size) hO6.1 (len_two hl6) ?_; intro v' w7 h7 hb7; have hC7 := SC.next hC6 hb7; (try simp only [Act.put, List.setIfInBounds_toArray, List.set_cons_zero, List.set_cons_succ]); have HW : Hid (WordsAt w v' ([116, 97, 98, 108, 101] :: nm.data.toList :: L.map colW) w7) := words_of h7 (map_two hw6) hC7.2.2.1.2.2; clear h7 hb7 hO6 hC6 hw6 hl6))) | fail
  all_goals
    clear hC7
    go_wp2_with fail
    go_ret
    exact ⟨_, rfl, HW.out⟩

set_option maxRecDepth 100000 in
set_option maxHeartbeats 4000000 in
theorem put_words (nm : ByteArray) (a : Option Addr) (cap : Nat) (L : List ASet) (w : World) (hL : SetsAt w a L) (hok : ∀ c ∈ L, c.ok = true) (hm : L.length ≤ 5) (htab : Tb w) : Calls Tryz.prog 236 #[.agg #[.string nm, .slice a L.length cap]] w fun e w' => ∃ v, e = .returned v ∧ WordsAt w v ([112, 117, 116] :: nm.data.toList :: L.map setW) w' := by
  have b0 : Below w.heap.size w (w.alloc (.cells #[.string nm, .slice a L.length cap] 87)) := (Below.refl _ _).alloc (Nat.le_refl _) _
  have h0 : SS w (.string nm) (.slice a L.length cap) a L (w.alloc (.cells #[.string nm, .slice a L.length cap] 87)) := SS.of (BoxL.start _ _ _) (tb_next htab b0) (hL.keep b0)
  clear htab hL b0
  go_enter Tryz.func236, Tryz.ntmps236
  go_wp2_with fail
  generalize w.alloc (.cells #[.string nm, .slice a L.length cap] 87) = W0 at *
  first | (go_region_held3 (fun W => SS w (.string nm) (.slice a L.length cap) a L W) (first | assumption | exact SS.next (by assumption) (Below.refl _ _).drew | exact SS.next (by assumption) ((Below.refl _ _).alloc (Nat.le_refl _) _))
    (first
      | (go_at_call 238; have hS := ‹SS w (.string nm) (.slice a L.length cap) a L _›; refine (each_sets a cap L _ hS.2.2.2.2 hok hm hS.2.2.2.1).mono ?_; rintro e w6 ⟨v6, ws, rfl, hO6, hw6⟩; have hC6 := SS.next hS hO6.2; have hl6 : ws.length ≤ 5 := Nat.le_trans (Nat.le_of_eq (len_map hw6)) hm; clear hS)
      | (refine step_words (some 9) rfl rfl _ _ rfl w6.heap.size [(⟨#[112, 117, 116]⟩ : ByteArray), nm] ws v6 rfl rfl (range_box w6 ([(⟨#[112, 117, 116]⟩ : ByteArray), nm].map Value.string) 9) (by simp) (own_keep hO6.1 ((Below.refl _ _).alloc (Nat.le_refl _) _)) (len_two hl6) ?_; intro v' w7 h7 hb7; have hC7 := SS.next (SS.next hC6 ((Below.refl _ _).alloc (Nat.le_refl _) _)) hb7; (try simp only [Act.put, List.setIfInBounds_toArray, List.set_cons_zero, List.set_cons_succ]); have HW : Hid (WordsAt w v' ([112, 117, 116] :: nm.data.toList :: L.map setW) w7) := words_of h7 (map_two hw6) hC7.2.2.1.2.2; clear h7 hb7 hO6 hC6 hw6 hl6)
      | (refine step_words (some 9) rfl rfl _ _ rfl W0.heap.size [(⟨#[112, 117, 116]⟩ : ByteArray), nm] ws v6 rfl rfl (range_next (W := (W0.alloc (.cells ([(⟨#[112, 117, 116]⟩ : ByteArray), nm].map Value.string).toArray 9)).drew) (range_boxd W0 ([(⟨#[112, 117, 116]⟩ : ByteArray), nm].map Value.string) 9) (new_lt W0 _) hO6.2) (Nat.lt_of_lt_of_le (new_lt W0 _) hO6.2.size) hO6.1 (len_two hl6) ?_; intro v' w7 h7 hb7; have hC7 := SS.next hC6 hb7; (try simp only [Act.put, List.setIfInBounds_toArray, List.set_cons_zero, List.set_cons_succ]); have HW : Hid (WordsAt w v' ([112, 117, 116] :: nm.data.toList :: L.map setW) w7) := words_of h7 (map_two hw6) hC7.2.2.1.2.2; clear h7 hb7 hO6 hC6 hw6 hl6))) | fail
  all_goals
    clear hC7
    go_wp2_with fail
    go_ret
    exact ⟨_, rfl, HW.out⟩

end Go.Proofs.YtpcfebekkgfpjaaGreatDoor
