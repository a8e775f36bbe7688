/- Contract of impl.valueOf at a text, over the seat's translation. -/
import Derived.Test.YtpcfebekkgfpjaaGreatDoorG02
import Derived.Test.YtpcfebekkgfpjaaGreatDoorG01
namespace Go.Proofs.YtpcfebekkgfpjaaGreatDoor
open Go.RowKit

set_option maxHeartbeats 400000 in
theorem value_text (n : Int) (s : ByteArray) (w : World) (hs : s.size ≤ maxLen) :
    Calls Tryz.prog 228 #[.agg #[.int .i64 2, .int .i64 n, .string s]] w fun e w' => e = .returned (.tuple #[.iface 185 (.string s), .bool (valOk 2 n s)]) ∧ Below w.heap.size w w' := by
  have hm1 := m_text_ok s
  have hm2 := m_text_val s
  have hB := held_box w 2 n s 26
  go_enter Tryz.func228, Tryz.ntmps228
  go_wp2
  cases hn : textOk s
  · clear hB
    first
      | (go_region_with (go_at_call 128; refine (text_ok _ _ hs).mono ?_; rintro e w' ⟨rfl, hb⟩))
      | fail
    all_goals
      go_wp2
      go_ret2
      have hb := ‹Below _ (World.drew _) _›
      refine ⟨?_, (((Below.refl _ _).alloc (Nat.le_refl _) _).drew).trans (hb.mono (by simp))⟩
      simp [valOk, hn, go_sem]
  · by_cases hse : n = 0
    · subst hse
      go_region_held3 (fun W => Held1 w w.heap.size 2 0 s W) (first | assumption | exact held_drew (by assumption))
        (first
          | (go_at_call 128; refine (text_ok _ _ hs).mono ?_; rintro e w' ⟨rfl, hb⟩; have hN := held_next (by assumption) hb; clear hb)
          | (go_at_call 129; refine (text_val _ _).mono ?_; rintro e w' ⟨rfl, hb⟩; have hN := held_next (by assumption) hb; clear hb))
      go_wp2
      go_ret2
      have hE := ‹Held1 w w.heap.size 2 0 s _›
      refine ⟨?_, hE.2.2.2.2⟩
      simp [valOk, hn]
    · have hne : (0 : Int) ≠ n := fun h => hse h.symm
      go_region_held3 (fun W => Held1 w w.heap.size 2 n s W) (first | assumption | exact held_drew (by assumption))
        (first
          | (go_at_call 128; refine (text_ok _ _ hs).mono ?_; rintro e w' ⟨rfl, hb⟩; have hN := held_next (by assumption) hb; clear hb)
          | (go_at_call 129; refine (text_val _ _).mono ?_; rintro e w' ⟨rfl, hb⟩; have hN := held_next (by assumption) hb; clear hb))
      go_wp2
      go_ret2
      have hE := ‹Held1 w w.heap.size 2 n s _›
      refine ⟨?_, hE.2.2.2.2⟩
      simp [valOk, hse]

end Go.Proofs.YtpcfebekkgfpjaaGreatDoor

/- Contracts of impl.valueOf at nothing and at what is of no kind, over the seat's translation. -/
namespace Go.Proofs.YtpcfebekkgfpjaaGreatDoor
open Go.RowKit

set_option maxHeartbeats 400000 in
theorem value_none (n : Int) (s : ByteArray) (w : World) :
    Calls Tryz.prog 228 #[.agg #[.int .i64 0, .int .i64 n, .string s]] w fun e w' => e = .returned (.tuple #[.iface 280 (.agg #[]), .bool (valOk 0 n s)]) ∧ Below w.heap.size w w' := by
  have hm1 := m_none_ok
  have hm2 := m_none_val
  have hB := held_box w 0 n s 26
  by_cases hse : n = 0
  · subst hse
    by_cases hl : s.toList = []
    all_goals
      go_enter Tryz.func228, Tryz.ntmps228
      go_wp2
      go_region_held3 (fun W => Held1 w w.heap.size 0 0 s W) (first | assumption | exact held_drew (by assumption))
        (first
          | (go_at_call 275; refine (none_ok _).mono ?_; rintro e w' ⟨rfl, hb⟩; have hN := held_next (by assumption) hb; clear hb)
          | (go_at_call 277; refine (none_val _).mono ?_; rintro e w' ⟨rfl, hb⟩; have hN := held_next (by assumption) hb; clear hb))
      go_wp2
      go_ret2
      have hE := ‹Held1 w w.heap.size 0 0 s _›
      refine ⟨?_, hE.2.2.2.2⟩
      simp [valOk, hl]
  · have hne : ¬ (0 : Int) = n := fun h => hse h.symm
    go_enter Tryz.func228, Tryz.ntmps228
    go_wp2
    go_region_held3 (fun W => Held1 w w.heap.size 0 n s W) (first | assumption | exact held_drew (by assumption))
      (first
        | (go_at_call 275; refine (none_ok _).mono ?_; rintro e w' ⟨rfl, hb⟩; have hN := held_next (by assumption) hb; clear hb)
        | (go_at_call 277; refine (none_val _).mono ?_; rintro e w' ⟨rfl, hb⟩; have hN := held_next (by assumption) hb; clear hb))
    go_wp2
    go_ret2
    have hE := ‹Held1 w w.heap.size 0 n s _›
    refine ⟨?_, hE.2.2.2.2⟩
    simp [valOk, hse]

set_option maxHeartbeats 400000 in
theorem value_other (k n : Int) (s : ByteArray) (w : World) (h0 : (k == 0) = false) (h1 : (k == 1) = false) (h2 : (k == 2) = false) :
    Calls Tryz.prog 228 #[.agg #[.int .i64 k, .int .i64 n, .string s]] w fun e w' => e = .returned (.tuple #[.iface 280 (.agg #[]), .bool (valOk k n s)]) ∧ Below w.heap.size w w' := by
  go_enter Tryz.func228, Tryz.ntmps228
  go_wp2
  go_ret2
  refine ⟨?_, (Below.refl _ _).alloc (Nat.le_refl _) _⟩
  simp at h0 h1 h2
  simp [valOk, h0, h1, h2]

end Go.Proofs.YtpcfebekkgfpjaaGreatDoor

/- Contract of impl.ValOk, over the seat's translation. -/
namespace Go.Proofs.YtpcfebekkgfpjaaGreatDoor
open Go.RowKit

theorem value_any (k n : Int) (s : ByteArray) (w : World) (hs : s.size ≤ maxLen) :
    Calls Tryz.prog 228 #[.agg #[.int .i64 k, .int .i64 n, .string s]] w fun e w' => ∃ t v, e = .returned (.tuple #[.iface t v, .bool (valOk k n s)]) ∧ Below w.heap.size w w' := by
  by_cases h0 : k = 0
  · subst h0; exact (value_none n s w).mono fun e w' h => ⟨_, _, h⟩
  · by_cases h1 : k = 1
    · subst h1; exact (value_num n s w).mono fun e w' h => ⟨_, _, h⟩
    · by_cases h2 : k = 2
      · subst h2; exact (value_text n s w hs).mono fun e w' h => ⟨_, _, h⟩
      · exact (value_other k n s w (beq_eq_false_iff_ne.2 h0) (beq_eq_false_iff_ne.2 h1) (beq_eq_false_iff_ne.2 h2)).mono fun e w' h => ⟨_, _, h⟩

theorem impl_ok (k n : Int) (s : ByteArray) (w : World) (hs : s.size ≤ maxLen) :
    Calls Tryz.prog 227 #[.agg #[.int .i64 k, .int .i64 n, .string s]] w fun e w' => e = .returned (.bool (valOk k n s)) ∧ Below w.heap.size w w' := by
  go_enter Tryz.func227, Tryz.ntmps227
  go_wp2_with fail
  refine (value_any _ _ _ _ hs).mono ?_
  rintro e w' ⟨t, v, rfl, hb⟩
  go_wp2_with fail
  go_ret
  exact ⟨rfl, ((Below.refl _ _).alloc (Nat.le_refl _) _).trans (hb.mono (by simp))⟩

end Go.Proofs.YtpcfebekkgfpjaaGreatDoor

/- Contracts of impl.fits and impl.ColOk, over the seat's translation. -/
namespace Go.Proofs.YtpcfebekkgfpjaaGreatDoor
open Go.RowKit

def fitsOk (kd k n : Int) (s : ByteArray) : Bool := valOk k n s && (k == 0 || k == kd)

theorem size_alloc (w : World) (o : Obj) : (w.alloc o).heap.size = w.heap.size + 1 := by simp

set_option maxHeartbeats 1000000 in
theorem fits_ok (nm : ByteArray) (kd : Int) (nd oc : Bool) (k0 n0 : Int) (s0 : ByteArray) (k n : Int) (s : ByteArray) (w : World) (hs : s.size ≤ maxLen) :
    Calls Tryz.prog 225 #[.agg #[.string nm, .int .i64 kd, .bool nd, .bool oc, .int .i64 k0, .int .i64 n0, .string s0], .agg #[.int .i64 k, .int .i64 n, .string s]] w
      fun e w' => e = .returned (.bool (fitsOk kd k n s)) ∧ Below w.heap.size w w' := by
  go_enter Tryz.func225, Tryz.ntmps225
  go_wp2_with (go_at_call 227; refine (impl_ok _ _ _ _ hs).mono ?_; rintro e w' ⟨rfl, hb⟩; have hN := held7_next (held7_next (held7_box _ _ _ _ _ _ _ _ _) ((Below.refl _ _).alloc (Nat.le_refl _) _)) hb; have hM := held_next (held_box _ _ _ _ _) hb; rw [size_alloc] at hM; clear hb)
  all_goals
    go_ret
    have hE := ‹Held7 _ _ _ _ _ _ _ _ _ _›
    refine ⟨?_, hE.2.2.2.2.2.2.2.2⟩
    simp_all [fitsOk]

set_option maxHeartbeats 1000000 in
theorem impl_col (nm : ByteArray) (kd : Int) (nd oc : Bool) (k n : Int) (s : ByteArray) (w : World) (hnm : nm.size ≤ maxLen) (hs : s.size ≤ maxLen) :
    Calls Tryz.prog 222 #[.agg #[.string nm, .int .i64 kd, .bool nd, .bool oc, .int .i64 k, .int .i64 n, .string s]] w fun e w' => e = .returned (.bool (colOk nm kd oc k n s)) ∧ Below w.heap.size w w' := by
  go_enter Tryz.func222, Tryz.ntmps222
  go_wp2_with (first
    | (go_at_call 220; refine (name_ok _ _ hnm).mono ?_; rintro e w' ⟨rfl, hb⟩; have hN := held7_next (held7_box _ _ _ _ _ _ _ _ _) hb; clear hb)
    | (go_at_call 225; refine (fits_ok _ _ _ _ _ _ _ _ _ _ _ hs).mono ?_; rintro e w' ⟨rfl, hb⟩; have hM := held7_next hN hb; clear hb))
  all_goals
    go_ret
    first
      | (have hE := hM
         refine ⟨?_, hE.2.2.2.2.2.2.2.2⟩
         simp_all [colOk, fitsOk]
         done)
      | (have hE := hN
         refine ⟨?_, hE.2.2.2.2.2.2.2.2⟩
         simp_all [colOk])

end Go.Proofs.YtpcfebekkgfpjaaGreatDoor

/- What is done, loaded and stored whole, over the seat's translation. -/
namespace Go.Proofs.YtpcfebekkgfpjaaGreatDoor
open Go.RowKit

theorem act_size : (Tryz.prog.info? 34).map (·.size) = some 19 := by kernel_rfl
/-- What is done, loaded whole. -/
theorem ld_act {ops : Array Oper} {rest : List Oper} {op : Oper} {a : Act} {w : World} {Q : Exit → Act → World → Prop} (hgd : op.guard = none) (x : Operand) (ho : op.op = .load 34 x)
    (B : Nat) (hx : a.eval x = .pointer (some ⟨B, 0, none⟩)) (cs : List Value) (hc : w.rangeAt B 0 cs) (hl : cs.length = 19) (h : wpList Tryz.prog ops Q rest (a.put op.dst (.agg cs.toArray)) w) : wpList Tryz.prog ops Q (op :: rest) a w :=
  wpList_load_mid hgd _ x ho B 0 hx cs _ hc Tryz.underlying34 rfl (by rw [act_size, hl]) h
/-- And stored whole. -/
theorem st_act {ops : Array Oper} {rest : List Oper} {op : Oper} {a : Act} {w : World} {Q : Exit → Act → World → Prop} (hgd : op.guard = none) (x y : Operand) (ho : op.op = .store 34 x y)
    (B : Nat) (hx : a.eval x = .pointer (some ⟨B, 0, none⟩)) (cs : List Value) (hy : a.eval y = .agg cs.toArray) (hl : cs.length = 19) (ht : w.there B 0 19) (h1 : ∀ v ∈ cs, v.oneCell' = true)
    (h : wpList Tryz.prog ops Q rest (a.put op.dst undef) (w.setCells B 0 cs)) : wpList Tryz.prog ops Q (op :: rest) a w :=
  wpList_store_mid hgd _ x y ho B 0 cs.toArray hx hy (by simpa [hl] using ht) (by simp [act_size, hl]) (all_oneCell_toArray h1) (by simpa using h)
theorem results_cell {fn : Func} {t : Tmp} {ty : TypeId} (h : fn.results = #[.cell t ty]) {tmps : Array Value} {P : Program} {w : World} {p : Addr} {v : Value} (hp : tmps.getD t undef = .pointer (some p)) (hl : (loadVar ty p).run P w = .ok v w) :
    (results fn tmps).run P w = .ok v w := by
  have hp' : tmps[t]?.getD undef = .pointer (some p) := by simpa using hp
  simp only [results, h]
  simp [hp', asAddr, hl]
theorem range_box (w : World) (cs : List Value) (t : TypeId) : (w.alloc (.cells cs.toArray t)).rangeAt w.heap.size 0 cs := fun j v hv => by
  have hb : (w.alloc (.cells cs.toArray t)).heap[w.heap.size]? = some (.cells cs.toArray t) := by
    show (w.heap.push _)[w.heap.size]? = _
    simp
  simp only [World.cell?, hb]
  simpa using hv
theorem there_box (w : World) (cs : List Value) (t : TypeId) (n : Nat) (hl : cs.length = n) : (w.alloc (.cells cs.toArray t)).there w.heap.size 0 n := fun j hj => by
  have hb : (w.alloc (.cells cs.toArray t)).heap[w.heap.size]? = some (.cells cs.toArray t) := by
    show (w.heap.push _)[w.heap.size]? = _
    simp
  constructor
  · simp only [World.cell?, hb]
    simp [hl, hj]
  · simp only [World.frozen?, hb]
    simp
theorem range_next {W W' : World} {B : Nat} {cs : List Value} (h : W.rangeAt B 0 cs) (hB : B < W.heap.size) (hb : Below W.heap.size W W') : W'.rangeAt B 0 cs := fun j v hv => by
  rw [hb.cell (p := ⟨B, 0 + j, none⟩) hB]
  exact h j v hv
theorem there_next {W W' : World} {B n : Nat} (h : W.there B 0 n) (hB : B < W.heap.size) (hb : Below W.heap.size W W') : W'.there B 0 n := fun j hj => by
  rw [hb.cell (p := ⟨B, 0 + j, none⟩) hB, hb.frozen (p := ⟨B, 0 + j, none⟩) hB]
  exact h j hj
theorem below_put {C B : Nat} {w W : World} (h : Below C w W) (hC : C ≤ B) (o : Nat) (vs : List Value) : Below C w (W.setCells B o vs) := by
  induction vs generalizing o W with
  | nil => exact h
  | cons v r ih => exact ih (h.setCell hC v) _

end Go.Proofs.YtpcfebekkgfpjaaGreatDoor
