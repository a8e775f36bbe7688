/- The contracts of the nine methods ok of what is done, over the seat's translation. -/
import Derived.Test.YtacindondkcaiaaGreatAcI1
import Derived.Test.YtacindondkcaiaaGreatAcP0
namespace Go.Proofs.YtacindondkcaiaaGreat
open Go.RowKit

/-- The box at B holds these values in W, and W lies over w. -/
def BoxL (w : World) (B : Nat) (cs : List Value) (W : World) : Prop := W.rangeAt B 0 cs ∧ B < W.heap.size ∧ Below B w W
theorem BoxL.next {w : World} {B : Nat} {cs : List Value} {W W' : World} (h : BoxL w B cs W) (hb : Below W.heap.size W W') : BoxL w B cs W' :=
  ⟨range_next h.1 h.2.1 hb, Nat.lt_of_lt_of_le h.2.1 hb.size, h.2.2.trans (hb.mono (Nat.le_of_lt h.2.1))⟩
theorem BoxL.start (w : World) (cs : List Value) (t : TypeId) : BoxL w w.heap.size cs (w.alloc (.cells cs.toArray t)) := ⟨range_box w cs t, by simp, (Below.refl _ _).alloc (Nat.le_refl _) _⟩
theorem box2 {W : World} {B : Nat} {v0 v1 : Value} (h : W.rangeAt B 0 [v0, v1]) : W.cell? ⟨B, 0, none⟩ = some v0 ∧ W.cell? ⟨B, 1, none⟩ = some v1 := ⟨h 0 _ rfl, h 1 _ rfl⟩
theorem box3 {W : World} {B : Nat} {v0 v1 v2 : Value} (h : W.rangeAt B 0 [v0, v1, v2]) : W.cell? ⟨B, 0, none⟩ = some v0 ∧ W.cell? ⟨B, 1, none⟩ = some v1 ∧ W.cell? ⟨B, 2, none⟩ = some v2 := ⟨h 0 _ rfl, h 1 _ rfl, h 2 _ rfl⟩
theorem box4 {W : World} {B : Nat} {v0 v1 v2 v3 : Value} (h : W.rangeAt B 0 [v0, v1, v2, v3]) : W.cell? ⟨B, 0, none⟩ = some v0 ∧ W.cell? ⟨B, 1, none⟩ = some v1 ∧ W.cell? ⟨B, 2, none⟩ = some v2 ∧ W.cell? ⟨B, 3, none⟩ = some v3 := ⟨h 0 _ rfl, h 1 _ rfl, h 2 _ rfl, h 3 _ rfl⟩
theorem box8 {W : World} {B : Nat} {v0 v1 v2 v3 v4 v5 v6 v7 : Value} (h : W.rangeAt B 0 [v0, v1, v2, v3, v4, v5, v6, v7]) : W.cell? ⟨B, 0, none⟩ = some v0 ∧ W.cell? ⟨B, 1, none⟩ = some v1 ∧ W.cell? ⟨B, 2, none⟩ = some v2 ∧ W.cell? ⟨B, 3, none⟩ = some v3 ∧ W.cell? ⟨B, 4, none⟩ = some v4 ∧ W.cell? ⟨B, 5, none⟩ = some v5 ∧ W.cell? ⟨B, 6, none⟩ = some v6 ∧ W.cell? ⟨B, 7, none⟩ = some v7 := ⟨h 0 _ rfl, h 1 _ rfl, h 2 _ rfl, h 3 _ rfl, h 4 _ rfl, h 5 _ rfl, h 6 _ rfl, h 7 _ rfl⟩

set_option maxRecDepth 100000 in
set_option maxHeartbeats 1000000 in
theorem table_ok (nm : ByteArray) (a : Option Addr) (cap : Nat) (L : List ACol) (w : World) (hL : ColsAt w a L) (hnm : nm.size ≤ maxLen) (hf : ∀ c ∈ L, c.fit) (hm : L.length ≤ maxLen) :
    Calls Tryz.prog 62 #[.agg #[.string nm, .slice a L.length cap]] w fun e w' => e = .returned (.bool (nameOk nm && (decide (1 ≤ L.length) && (decide (L.length ≤ 5) && L.all ACol.ok)))) ∧ Below w.heap.size w w' := by
  have h0 : Hid (BoxL w w.heap.size [.string nm, .slice a L.length cap] (w.alloc (.cells #[.string nm, .slice a L.length cap] 81))) := BoxL.start _ _ _
  go_enter Tryz.func62, Tryz.ntmps62
  go_wp2_with fail
  refine (name_ok nm _ hnm).mono ?_
  rintro e w1 ⟨rfl, hb⟩
  have h1 : Hid (BoxL w w.heap.size [.string nm, .slice a L.length cap] w1) := h0.out.next hb
  clear h0 hb
  have x1 := box2 h1.out.1
  cases hn0 : nameOk nm
  case false =>
    go_wp2_with fail
    go_ret
    exact ⟨ret_bool (by simp [hn0]), h1.out.2.2⟩
  by_cases hi1 : (1 : Int) ≤ L.length
  case neg =>
    have hj : ¬ 1 ≤ L.length := by omega
    go_wp2_with fail
    go_ret
    exact ⟨ret_bool (by simp), h1.out.2.2⟩
  have hj1 : 1 ≤ L.length := by omega
  by_cases hi2 : (L.length : Int) ≤ 5
  case neg =>
    have hj : ¬ L.length ≤ 5 := by omega
    go_wp2_with fail
    go_ret
    exact ⟨ret_bool (by simp), h1.out.2.2⟩
  have hj2 : L.length ≤ 5 := by omega
  go_wp2_with fail
  refine (all_cols _ _ _ _ (hL.keep h1.out.2.2) hf hm).mono ?_
  rintro e w2 ⟨rfl, hb⟩
  have h2 : Hid (BoxL w w.heap.size [.string nm, .slice a L.length cap] w2) := h1.out.next hb
  clear h1 hb
  clear x1
  have x2 := box2 h2.out.1
  clear x2
  go_wp2_with fail
  go_ret
  exact ⟨ret_bool (by simp [hj1, hj2, hn0]), h2.out.2.2⟩

set_option maxRecDepth 100000 in
set_option maxHeartbeats 1000000 in
theorem link_ok (l : ALnk) (w : World) (hf : l.fit) :
    Calls Tryz.prog 73 #[.agg #[.string l.fr, .string l.co, .string l.tt, .int .i64 l.hw]] w fun e w' => e = .returned (.bool (nameOk l.fr && (nameOk l.co && (nameOk l.tt && howOk l.hw)))) ∧ Below w.heap.size w w' := by
  have h0 : Hid (BoxL w w.heap.size [.string l.fr, .string l.co, .string l.tt, .int .i64 l.hw] (w.alloc (.cells #[.string l.fr, .string l.co, .string l.tt, .int .i64 l.hw] 83))) := BoxL.start _ _ _
  go_enter Tryz.func73, Tryz.ntmps73
  go_wp2_with fail
  refine (name_ok l.fr _ hf.1).mono ?_
  rintro e w1 ⟨rfl, hb⟩
  have h1 : Hid (BoxL w w.heap.size [.string l.fr, .string l.co, .string l.tt, .int .i64 l.hw] w1) := h0.out.next hb
  clear h0 hb
  have x1 := box4 h1.out.1
  cases hn0 : nameOk l.fr
  case false =>
    go_wp2_with fail
    go_ret
    exact ⟨ret_bool (by simp [hn0]), h1.out.2.2⟩
  go_wp2_with fail
  refine (name_ok l.co _ hf.2.1).mono ?_
  rintro e w2 ⟨rfl, hb⟩
  have h2 : Hid (BoxL w w.heap.size [.string l.fr, .string l.co, .string l.tt, .int .i64 l.hw] w2) := h1.out.next hb
  clear h1 hb
  clear x1
  have x2 := box4 h2.out.1
  cases hn1 : nameOk l.co
  case false =>
    go_wp2_with fail
    go_ret
    exact ⟨ret_bool (by simp [hn1]), h2.out.2.2⟩
  go_wp2_with fail
  refine (name_ok l.tt _ hf.2.2).mono ?_
  rintro e w3 ⟨rfl, hb⟩
  have h3 : Hid (BoxL w w.heap.size [.string l.fr, .string l.co, .string l.tt, .int .i64 l.hw] w3) := h2.out.next hb
  clear h2 hb
  clear x2
  have x3 := box4 h3.out.1
  cases hn2 : nameOk l.tt
  case false =>
    go_wp2_with fail
    go_ret
    exact ⟨ret_bool (by simp [hn2]), h3.out.2.2⟩
  go_wp2_with fail
  refine (how_word l.hw _).mono ?_
  rintro e wz ⟨rfl, hz⟩
  subst hz
  clear x3
  go_wp2_with fail
  go_ret
  exact ⟨ret_bool (by simp [hn0, hn1, hn2, how_none]), h3.out.2.2⟩

set_option maxRecDepth 100000 in
set_option maxHeartbeats 1000000 in
theorem put_ok (nm : ByteArray) (a : Option Addr) (cap : Nat) (L : List ASet) (w : World) (hL : SetsAt w a L) (hnm : nm.size ≤ maxLen) (hf : ∀ c ∈ L, c.fit) (hm : L.length ≤ maxLen) :
    Calls Tryz.prog 78 #[.agg #[.string nm, .slice a L.length cap]] w fun e w' => e = .returned (.bool (nameOk nm && (decide (L.length ≤ 5) && L.all ASet.ok))) ∧ Below w.heap.size w w' := by
  have h0 : Hid (BoxL w w.heap.size [.string nm, .slice a L.length cap] (w.alloc (.cells #[.string nm, .slice a L.length cap] 85))) := BoxL.start _ _ _
  go_enter Tryz.func78, Tryz.ntmps78
  go_wp2_with fail
  refine (name_ok nm _ hnm).mono ?_
  rintro e w1 ⟨rfl, hb⟩
  have h1 : Hid (BoxL w w.heap.size [.string nm, .slice a L.length cap] w1) := h0.out.next hb
  clear h0 hb
  have x1 := box2 h1.out.1
  cases hn0 : nameOk nm
  case false =>
    go_wp2_with fail
    go_ret
    exact ⟨ret_bool (by simp [hn0]), h1.out.2.2⟩
  go_wp2_with fail
  refine (sets_ok _ _ _ _ (hL.keep h1.out.2.2) hf hm).mono ?_
  rintro e w2 ⟨rfl, hb⟩
  have h2 : Hid (BoxL w w.heap.size [.string nm, .slice a L.length cap] w2) := h1.out.next hb
  clear h1 hb
  clear x1
  have x2 := box2 h2.out.1
  clear x2
  go_wp2_with fail
  go_ret
  exact ⟨ret_bool (by simp [hn0]), h2.out.2.2⟩

set_option maxRecDepth 100000 in
set_option maxHeartbeats 1000000 in
theorem setd_ok (nm : ByteArray) (id : Int) (a : Option Addr) (cap : Nat) (L : List ASet) (w : World) (hL : SetsAt w a L) (hnm : nm.size ≤ maxLen) (hf : ∀ c ∈ L, c.fit) (hm : L.length ≤ maxLen) :
    Calls Tryz.prog 85 #[.agg #[.string nm, .int .i64 id, .slice a L.length cap]] w fun e w' => e = .returned (.bool (nameOk nm && (idOk id && (decide (L.length ≤ 5) && L.all ASet.ok)))) ∧ Below w.heap.size w w' := by
  have h0 : Hid (BoxL w w.heap.size [.string nm, .int .i64 id, .slice a L.length cap] (w.alloc (.cells #[.string nm, .int .i64 id, .slice a L.length cap] 87))) := BoxL.start _ _ _
  go_enter Tryz.func85, Tryz.ntmps85
  go_wp2_with fail
  refine (name_ok nm _ hnm).mono ?_
  rintro e w1 ⟨rfl, hb⟩
  have h1 : Hid (BoxL w w.heap.size [.string nm, .int .i64 id, .slice a L.length cap] w1) := h0.out.next hb
  clear h0 hb
  have x1 := box3 h1.out.1
  cases hn0 : nameOk nm
  case false =>
    go_wp2_with fail
    go_ret
    exact ⟨ret_bool (by simp [hn0]), h1.out.2.2⟩
  go_wp2_with fail
  refine (id_ok id _).mono ?_
  rintro e wz ⟨rfl, hz⟩
  subst hz
  cases hn1 : idOk id
  case false =>
    go_wp2_with fail
    go_ret
    exact ⟨ret_bool (by simp [hn1]), h1.out.2.2⟩
  go_wp2_with fail
  refine (sets_ok _ _ _ _ (hL.keep h1.out.2.2) hf hm).mono ?_
  rintro e w2 ⟨rfl, hb⟩
  have h2 : Hid (BoxL w w.heap.size [.string nm, .int .i64 id, .slice a L.length cap] w2) := h1.out.next hb
  clear h1 hb
  clear x1
  have x2 := box3 h2.out.1
  clear x2
  go_wp2_with fail
  go_ret
  exact ⟨ret_bool (by simp [hn0, hn1]), h2.out.2.2⟩

set_option maxRecDepth 100000 in
set_option maxHeartbeats 1000000 in
theorem off_ok (nm : ByteArray) (id : Int) (w : World) (hnm : nm.size ≤ maxLen) :
    Calls Tryz.prog 90 #[.agg #[.string nm, .int .i64 id]] w fun e w' => e = .returned (.bool (nameOk nm && idOk id)) ∧ Below w.heap.size w w' := by
  have h0 : Hid (BoxL w w.heap.size [.string nm, .int .i64 id] (w.alloc (.cells #[.string nm, .int .i64 id] 89))) := BoxL.start _ _ _
  go_enter Tryz.func90, Tryz.ntmps90
  go_wp2_with fail
  refine (name_ok nm _ hnm).mono ?_
  rintro e w1 ⟨rfl, hb⟩
  have h1 : Hid (BoxL w w.heap.size [.string nm, .int .i64 id] w1) := h0.out.next hb
  clear h0 hb
  have x1 := box2 h1.out.1
  cases hn0 : nameOk nm
  case false =>
    go_wp2_with fail
    go_ret
    exact ⟨ret_bool (by simp [hn0]), h1.out.2.2⟩
  go_wp2_with fail
  refine (id_ok id _).mono ?_
  rintro e wz ⟨rfl, hz⟩
  subst hz
  clear x1
  go_wp2_with fail
  go_ret
  exact ⟨ret_bool (by simp [hn0]), h1.out.2.2⟩

set_option maxRecDepth 100000 in
set_option maxHeartbeats 1000000 in
theorem add_ok (nm : ByteArray) (c : ACol) (w : World) (hnm : nm.size ≤ maxLen) (hf : c.fit) :
    Calls Tryz.prog 94 #[.agg #[.string nm, .string c.nm, .int .i64 c.kd, .bool c.nd, .bool c.oc, .int .i64 c.k, .int .i64 c.n, .string c.s]] w fun e w' => e = .returned (.bool (nameOk nm && c.ok)) ∧ Below w.heap.size w w' := by
  have h0 : Hid (BoxL w w.heap.size [.string nm, .string c.nm, .int .i64 c.kd, .bool c.nd, .bool c.oc, .int .i64 c.k, .int .i64 c.n, .string c.s] (w.alloc (.cells #[.string nm, .string c.nm, .int .i64 c.kd, .bool c.nd, .bool c.oc, .int .i64 c.k, .int .i64 c.n, .string c.s] 99))) := BoxL.start _ _ _
  go_enter Tryz.func94, Tryz.ntmps94
  go_wp2_with fail
  refine (name_ok nm _ hnm).mono ?_
  rintro e w1 ⟨rfl, hb⟩
  have h1 : Hid (BoxL w w.heap.size [.string nm, .string c.nm, .int .i64 c.kd, .bool c.nd, .bool c.oc, .int .i64 c.k, .int .i64 c.n, .string c.s] w1) := h0.out.next hb
  clear h0 hb
  have x1 := box8 h1.out.1
  cases hn0 : nameOk nm
  case false =>
    go_wp2_with fail
    go_ret
    exact ⟨ret_bool (by simp [hn0]), h1.out.2.2⟩
  go_wp2_with fail
  refine (impl_col c.nm c.kd c.nd c.oc c.k c.n c.s _ hf.1 hf.2).mono ?_
  rintro e w2 ⟨rfl, hb⟩
  have h2 : Hid (BoxL w w.heap.size [.string nm, .string c.nm, .int .i64 c.kd, .bool c.nd, .bool c.oc, .int .i64 c.k, .int .i64 c.n, .string c.s] w2) := h1.out.next hb
  clear h1 hb
  clear x1
  have x2 := box8 h2.out.1
  clear x2
  go_wp2_with fail
  go_ret
  exact ⟨ret_bool (by simp [hn0, ACol.ok]), h2.out.2.2⟩

set_option maxRecDepth 100000 in
set_option maxHeartbeats 1000000 in
theorem drop_ok (nm co : ByteArray) (w : World) (hnm : nm.size ≤ maxLen) (hco : co.size ≤ maxLen) :
    Calls Tryz.prog 99 #[.agg #[.string nm, .string co]] w fun e w' => e = .returned (.bool (nameOk nm && nameOk co)) ∧ Below w.heap.size w w' := by
  have h0 : Hid (BoxL w w.heap.size [.string nm, .string co] (w.alloc (.cells #[.string nm, .string co] 101))) := BoxL.start _ _ _
  go_enter Tryz.func99, Tryz.ntmps99
  go_wp2_with fail
  refine (name_ok nm _ hnm).mono ?_
  rintro e w1 ⟨rfl, hb⟩
  have h1 : Hid (BoxL w w.heap.size [.string nm, .string co] w1) := h0.out.next hb
  clear h0 hb
  have x1 := box2 h1.out.1
  cases hn0 : nameOk nm
  case false =>
    go_wp2_with fail
    go_ret
    exact ⟨ret_bool (by simp [hn0]), h1.out.2.2⟩
  go_wp2_with fail
  refine (name_ok co _ hco).mono ?_
  rintro e w2 ⟨rfl, hb⟩
  have h2 : Hid (BoxL w w.heap.size [.string nm, .string co] w2) := h1.out.next hb
  clear h1 hb
  clear x1
  have x2 := box2 h2.out.1
  clear x2
  go_wp2_with fail
  go_ret
  exact ⟨ret_bool (by simp [hn0]), h2.out.2.2⟩

set_option maxRecDepth 100000 in
set_option maxHeartbeats 1000000 in
theorem named_ok (nm co tt : ByteArray) (w : World) (hnm : nm.size ≤ maxLen) (hco : co.size ≤ maxLen) (htt : tt.size ≤ maxLen) :
    Calls Tryz.prog 103 #[.agg #[.string nm, .string co, .string tt]] w fun e w' => e = .returned (.bool (nameOk nm && (nameOk co && nameOk tt))) ∧ Below w.heap.size w w' := by
  have h0 : Hid (BoxL w w.heap.size [.string nm, .string co, .string tt] (w.alloc (.cells #[.string nm, .string co, .string tt] 103))) := BoxL.start _ _ _
  go_enter Tryz.func103, Tryz.ntmps103
  go_wp2_with fail
  refine (name_ok nm _ hnm).mono ?_
  rintro e w1 ⟨rfl, hb⟩
  have h1 : Hid (BoxL w w.heap.size [.string nm, .string co, .string tt] w1) := h0.out.next hb
  clear h0 hb
  have x1 := box3 h1.out.1
  cases hn0 : nameOk nm
  case false =>
    go_wp2_with fail
    go_ret
    exact ⟨ret_bool (by simp [hn0]), h1.out.2.2⟩
  go_wp2_with fail
  refine (name_ok co _ hco).mono ?_
  rintro e w2 ⟨rfl, hb⟩
  have h2 : Hid (BoxL w w.heap.size [.string nm, .string co, .string tt] w2) := h1.out.next hb
  clear h1 hb
  clear x1
  have x2 := box3 h2.out.1
  cases hn1 : nameOk co
  case false =>
    go_wp2_with fail
    go_ret
    exact ⟨ret_bool (by simp [hn1]), h2.out.2.2⟩
  go_wp2_with fail
  refine (name_ok tt _ htt).mono ?_
  rintro e w3 ⟨rfl, hb⟩
  have h3 : Hid (BoxL w w.heap.size [.string nm, .string co, .string tt] w3) := h2.out.next hb
  clear h2 hb
  clear x2
  have x3 := box3 h3.out.1
  clear x3
  go_wp2_with fail
  go_ret
  exact ⟨ret_bool (by simp [hn0, hn1]), h3.out.2.2⟩

set_option maxRecDepth 100000 in
set_option maxHeartbeats 1000000 in
theorem kindd_ok (nm co : ByteArray) (k : Int) (w : World) (hnm : nm.size ≤ maxLen) (hco : co.size ≤ maxLen) :
    Calls Tryz.prog 107 #[.agg #[.string nm, .string co, .int .i64 k]] w fun e w' => e = .returned (.bool (nameOk nm && (nameOk co && kindOk k))) ∧ Below w.heap.size w w' := by
  have h0 : Hid (BoxL w w.heap.size [.string nm, .string co, .int .i64 k] (w.alloc (.cells #[.string nm, .string co, .int .i64 k] 105))) := BoxL.start _ _ _
  go_enter Tryz.func107, Tryz.ntmps107
  go_wp2_with fail
  refine (name_ok nm _ hnm).mono ?_
  rintro e w1 ⟨rfl, hb⟩
  have h1 : Hid (BoxL w w.heap.size [.string nm, .string co, .int .i64 k] w1) := h0.out.next hb
  clear h0 hb
  have x1 := box3 h1.out.1
  cases hn0 : nameOk nm
  case false =>
    go_wp2_with fail
    go_ret
    exact ⟨ret_bool (by simp [hn0]), h1.out.2.2⟩
  go_wp2_with fail
  refine (name_ok co _ hco).mono ?_
  rintro e w2 ⟨rfl, hb⟩
  have h2 : Hid (BoxL w w.heap.size [.string nm, .string co, .int .i64 k] w2) := h1.out.next hb
  clear h1 hb
  clear x1
  have x2 := box3 h2.out.1
  cases hn1 : nameOk co
  case false =>
    go_wp2_with fail
    go_ret
    exact ⟨ret_bool (by simp [hn1]), h2.out.2.2⟩
  go_wp2_with fail
  refine (kind_word k _).mono ?_
  rintro e wz ⟨rfl, hz⟩
  subst hz
  clear x2
  go_wp2_with fail
  go_ret
  exact ⟨ret_bool (by simp [hn0, hn1, kind_none]), h2.out.2.2⟩

end Go.Proofs.YtacindondkcaiaaGreat
