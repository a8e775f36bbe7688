/- The contract of impl.readSet, over the seat's translation. -/
import Derived.Test.YtpcfebekkgfpjaaGreatDoorG15
namespace Go.Proofs.YtpcfebekkgfpjaaGreatDoor
open Go.RowKit

/-- The variable internal/bytealg.MaxLen holds a number. -/
def Mx (m : Int) (w : World) : Prop := w.cell? ⟨0, 0, none⟩ = some (.int .i64 m) ∧ 0 < w.heap.size
theorem Mx.next {m : Int} {w w' : World} (h : Mx m w) (hb : Below w.heap.size w w') : Mx m w' := ⟨by rw [hb.cell h.2]; exact h.1, Nat.lt_of_lt_of_le h.2 hb.size⟩

theorem drewN_below (w : World) (n : Nat) : Below w.heap.size w (w.drewN n) := by
  induction n with
  | zero => exact Below.refl _ _
  | succ n ih => exact ih.drew

/-- What a word is read as. -/
def setR (l : Bs) : ASet := ⟨⟨(Lib.cut l [61]).1.toArray⟩, (readV (Lib.cut l [61]).2.1).1, (readV (Lib.cut l [61]).2.1).2.1, ⟨(readV (Lib.cut l [61]).2.1).2.2.1.toArray⟩⟩
theorem setR_word {c : ASet} (h : c.ok = true) : setR (setW c) = c := by
  simp only [ASet.ok, Bool.and_eq_true] at h
  unfold setR setW
  rw [cut_at (plain_name h.1).2.1]
  simp only [read_text _ _ _ h.2, bytes_eta]

/-- Four cells that may be written. -/
theorem there4 {W : World} {b : Nat} (h : W.there b 0 4) : ∃ x0 x1 x2 x3, W.cell? ⟨b, 0, none⟩ = some x0 ∧ W.cell? ⟨b, 1, none⟩ = some x1 ∧ W.cell? ⟨b, 2, none⟩ = some x2 ∧ W.cell? ⟨b, 3, none⟩ = some x3 ∧
    W.frozen? ⟨b, 0, none⟩ = false ∧ W.frozen? ⟨b, 1, none⟩ = false ∧ W.frozen? ⟨b, 2, none⟩ = false ∧ W.frozen? ⟨b, 3, none⟩ = false := by
  have hh : ∀ j, j < 4 → (∃ x, W.cell? ⟨b, j, none⟩ = some x) ∧ W.frozen? ⟨b, j, none⟩ = false := fun j hj => by
    have := h j hj
    rw [Nat.zero_add] at this
    exact ⟨Option.isSome_iff_exists.1 this.1, this.2⟩
  obtain ⟨⟨x0, a0⟩, b0⟩ := hh 0 (by omega)
  obtain ⟨⟨x1, a1⟩, b1⟩ := hh 1 (by omega)
  obtain ⟨⟨x2, a2⟩, b2⟩ := hh 2 (by omega)
  obtain ⟨⟨x3, a3⟩, b3⟩ := hh 3 (by omega)
  exact ⟨x0, x1, x2, x3, a0, a1, a2, a3, b0, b1, b2, b3⟩
theorem cut_len (l : Bs) (c : UInt8) : (Lib.cut l [c]).2.1.length ≤ l.length := by
  unfold Lib.cut
  split <;> simp
theorem cut_call (c : UInt8) (m : Int) (t a b : ByteArray) (f : Bool) (w : World) (ht : t.size ≤ 1048576) (hM : Mx m w) (h : Lib.cut t.data.toList [c] = (a.data.toList, b.data.toList, f)) :
    Calls Tryz.prog 92 #[.string t, .string ⟨#[c]⟩] w fun e w' => e = .returned (.tuple #[.string a, .string b, .bool f]) ∧ Below w.heap.size w w' := by
  refine (Tryz.strings_Cut t ⟨#[c]⟩ m w (by omega) hM.1).mono ?_
  rintro e w1 ⟨rfl, n, rfl⟩
  have h' : Lib.cut t.data.toList (⟨#[c]⟩ : ByteArray).data.toList = (a.data.toList, b.data.toList, f) := h
  rw [h']
  exact ⟨by simp only [bytes_eta], drewN_below w n⟩

set_option maxRecDepth 100000 in
set_option maxHeartbeats 1000000 in
theorem read_set_at (m : Int) (t a b : ByteArray) (f : Bool) (k n : Int) (x : List UInt8) (ok : Bool) (w : World) (ht : t.size ≤ 1048576) (htab : Tb w) (hM : Mx m w) (hc : Lib.cut t.data.toList [61] = (a.data.toList, b.data.toList, f)) (hr : readV b.data.toList = (k, n, x, ok)) :
    Calls Tryz.prog 56 #[.string t] w fun e w' => e = .returned (.agg #[.string a, .int .i64 k, .int .i64 n, .string ⟨x.toArray⟩]) ∧ Below w.heap.size w w' := by
  have hb : b.size ≤ maxLen := by
    have h1 : b.data.toList.length ≤ t.data.toList.length := by
      have h := cut_len t.data.toList 61
      rw [hc] at h
      exact h
    have h2 : b.data.toList.length = b.size := by simp
    have h3 : t.data.toList.length = t.size := by simp
    unfold maxLen
    omega
  have B0 : Below w.heap.size w (w.alloc (.cells #[.string ⟨#[]⟩, .int .i64 0, .int .i64 0, .string ⟨#[]⟩] 102)) := (Below.refl _ _).alloc (Nat.le_refl _) _
  have H0 : Hid (Tb (w.alloc (.cells #[.string ⟨#[]⟩, .int .i64 0, .int .i64 0, .string ⟨#[]⟩] 102)) ∧ Mx m (w.alloc (.cells #[.string ⟨#[]⟩, .int .i64 0, .int .i64 0, .string ⟨#[]⟩] 102)) ∧ (w.alloc (.cells #[.string ⟨#[]⟩, .int .i64 0, .int .i64 0, .string ⟨#[]⟩] 102)).there w.heap.size 0 4 ∧ w.heap.size < (w.alloc (.cells #[.string ⟨#[]⟩, .int .i64 0, .int .i64 0, .string ⟨#[]⟩] 102)).heap.size ∧ Below w.heap.size w (w.alloc (.cells #[.string ⟨#[]⟩, .int .i64 0, .int .i64 0, .string ⟨#[]⟩] 102))) := ⟨tb_next htab B0, hM.next B0, there_box w [.string ⟨#[]⟩, .int .i64 0, .int .i64 0, .string ⟨#[]⟩] 102 4 rfl, by simp, B0⟩
  have HC : Hid (Lib.cut t.data.toList [61] = (a.data.toList, b.data.toList, f) ∧ readV b.data.toList = (k, n, x, ok)) := ⟨hc, hr⟩
  clear htab hM hc hr B0
  go_enter Tryz.func56, Tryz.ntmps56
  go_wp2_with fail
  generalize w.alloc (.cells #[.string ⟨#[]⟩, .int .i64 0, .int .i64 0, .string ⟨#[]⟩] 102) = W0 at *
  refine (cut_call 61 m t a b f _ ht H0.out.2.1 HC.out.1).mono ?_
  rintro e w1 ⟨rfl, hq⟩
  have H1 : Hid (Tb w1 ∧ w1.there w.heap.size 0 4 ∧ w.heap.size < w1.heap.size ∧ Below w.heap.size w w1) := ⟨tb_next H0.out.1 hq, there_next H0.out.2.2.1 H0.out.2.2.2.1 hq, Nat.lt_of_lt_of_le H0.out.2.2.2.1 hq.size, H0.out.2.2.2.2.trans (hq.mono H0.out.2.2.2.2.size)⟩
  clear H0 hq
  go_wp2_with fail
  refine (impl_read b _ hb H1.out.1 k n x ok HC.out.2).mono ?_
  rintro e w2 ⟨rfl, hq⟩
  have H2 : Hid (w2.there w.heap.size 0 4 ∧ w.heap.size < w2.heap.size ∧ Below w.heap.size w w2) := ⟨there_next H1.out.2.1 H1.out.2.2.1 hq, Nat.lt_of_lt_of_le H1.out.2.2.1 hq.size, H1.out.2.2.2.trans (hq.mono H1.out.2.2.2.size)⟩
  clear H1 hq
  obtain ⟨y0, y1, y2, y3, hth⟩ := there4 H2.out.1
  have hlt := H2.out.2.1
  go_wp2_with fail
  have hP := below_put H2.out.2.2 (Nat.le_refl w.heap.size) 0 [.string a, .int .i64 k, .int .i64 n, .string ⟨x.toArray⟩]
  have hR := World.rangeAt_alloc (World.rangeAt_setCells_same w2 w.heap.size 0 [.string a, .int .i64 k, .int .i64 n, .string ⟨x.toArray⟩] H2.out.1) (.cells #[.int .i64 k, .int .i64 n, .string ⟨x.toArray⟩] 26)
  exact bodyPost_ret (results_cell Tryz.results56 rfl (run_loadVar_mid _ _ 0 _ _ _ hR Tryz.underlying102 rfl (by kernel_rfl))) rfl ⟨rfl, hP.alloc hP.size _⟩
theorem read_set (m : Int) (t : ByteArray) (w : World) (ht : t.size ≤ 1048576) (htab : Tb w) (hM : Mx m w) :
    Calls Tryz.prog 56 #[.string t] w fun e w' => e = .returned (.agg #[.string (setR t.data.toList).nm, .int .i64 (setR t.data.toList).k, .int .i64 (setR t.data.toList).n, .string (setR t.data.toList).s]) ∧ Below w.heap.size w w' :=
  read_set_at m t ⟨(Lib.cut t.data.toList [61]).1.toArray⟩ ⟨(Lib.cut t.data.toList [61]).2.1.toArray⟩ _ _ _ _ _ w ht htab hM rfl rfl

end Go.Proofs.YtpcfebekkgfpjaaGreatDoor

/- How a column's word is read back: plain facts, no program in them. -/
namespace Go.Proofs.YtpcfebekkgfpjaaGreatDoor
open Go.RowKit

/-- The marks of a column's word, from a place on: whether there must be a value, whether once, where its kind ends, and what stands behind the sign of what it is at first. -/
def markB (i : Nat) (nd oc : Bool) (ke : Nat) : Bs → Bool × Bool × Nat × Option Bs
  | [] => (nd, oc, ke, none)
  | b :: r => if b = 33 then markB (i + 1) true oc ke r else if b = 94 then markB (i + 1) nd true ke r else if b = 61 then (nd, oc, ke, some r) else markB (i + 1) nd oc (i + 1) r
theorem mark_cons (i : Nat) (nd oc : Bool) (ke : Nat) (b : UInt8) (r : Bs) : markB i nd oc ke (b :: r) = if b = 33 then markB (i + 1) true oc ke r else if b = 94 then markB (i + 1) nd true ke r else if b = 61 then (nd, oc, ke, some r) else markB (i + 1) nd oc (i + 1) r := rfl
/-- A column's word behind its name. -/
def colRest (q : ACol) : Bs := kindB q.kd ++ ((if q.nd then [33] else []) ++ ((if q.oc then [94] else []) ++ (if q.k = 0 then [] else 61 :: textV q.k q.n q.s)))
theorem colW_rest (q : ACol) : colW q = q.nm.data.toList ++ 58 :: colRest q := rfl
theorem ok_parts {q : ACol} (h : q.ok = true) : nameOk q.nm = true ∧ kindOk q.kd = true ∧ valOk q.k q.n q.s = true := by
  simp only [ACol.ok, colOk, Bool.and_eq_true] at h
  exact ⟨h.1, by simpa [kindOk] using h.2.1, h.2.2.1⟩
theorem mark_rest {q : ACol} (h : q.ok = true) : markB 0 false false 0 (colRest q) = (q.nd, q.oc, (kindB q.kd).length, if q.k = 0 then none else some (textV q.k q.n q.s)) := by
  have hk := (ok_parts h).2.1
  simp only [kindOk, Bool.or_eq_true, beq_iff_eq] at hk
  unfold colRest
  rcases hk with hk | hk <;> rw [hk] <;> cases q.nd <;> cases q.oc <;> by_cases h0 : q.k = 0 <;> simp [kindB, kindS, markB, h0]
theorem cut_col {q : ACol} (h : q.ok = true) : Lib.cut (colW q) [58] = (q.nm.data.toList, colRest q, true) := by
  rw [colW_rest]
  exact cut_at (plain_name (ok_parts h).1).2.2.1
theorem take_kind (q : ACol) : (colRest q).take (kindB q.kd).length = kindB q.kd := by
  unfold colRest
  simp

/-- All bytes are of one byte's runes. -/
def low (l : Bs) : Prop := ∀ b ∈ l, b.toNat < 128
theorem low_append {l m : Bs} (h : low l) (h' : low m) : low (l ++ m) := fun b hb => by
  rcases List.mem_append.1 hb with hb | hb
  · exact h b hb
  · exact h' b hb
theorem low_dec {u : Nat} (h : u < 1000) : low (decL u) := by
  have key : ∀ d : Nat, d < 10 → (UInt8.ofNat (48 + d)).toNat < 128 := fun d hd => by have := byte_dig d hd; omega
  unfold decL
  split
  · intro b hb
    rw [List.mem_singleton] at hb
    subst hb
    exact key _ (by omega)
  · split
    · intro b hb
      simp only [List.mem_cons, List.not_mem_nil, or_false] at hb
      rcases hb with rfl | rfl
      · exact key _ (by omega)
      · exact key _ (by omega)
    · intro b hb
      simp only [List.mem_cons, List.not_mem_nil, or_false] at hb
      rcases hb with rfl | rfl | rfl
      · exact key _ (by omega)
      · exact key _ (by omega)
      · exact key _ (by omega)
theorem low_text (k n : Int) (s : ByteArray) : low (textV k n s) := by
  cases h : valOk k n s
  · rw [textV_no h]
    intro b hb
    simp at hb
  · unfold textV
    rw [h]
    rcases ok_kind h with rfl | rfl | rfl
    · show low [110, 111, 110, 101]
      unfold low
      decide
    · have hn := ok_num h
      show low (Lib.itoa n)
      by_cases hs : n < 0
      · rw [itoa_neg hs hn.2.1]
        exact low_append (l := [45]) (by unfold low; decide) (low_dec (by omega))
      · rw [itoa_pos (by omega) hn.2.2]
        exact low_dec (by omega)
    · have := (ok_text h).2
      simp only [textOk, signs, Bool.and_eq_true, List.all_eq_true] at this
      intro b hb
      simp only [if_true] at hb
      simp at hb
      rcases hb with rfl | hb | rfl
      · decide
      · have := this.1 b (by simpa using hb)
        simp only [sign, Bool.or_eq_true, Bool.and_eq_true, decide_eq_true_eq, beq_iff_eq] at this
        omega
      · decide
theorem low_rest {q : ACol} (h : q.ok = true) : low (colRest q) := by
  have hk := (ok_parts h).2.1
  simp only [kindOk, Bool.or_eq_true, beq_iff_eq] at hk
  unfold colRest
  refine low_append ?_ (low_append ?_ (low_append ?_ ?_))
  · rcases hk with hk | hk <;> rw [hk] <;> (unfold low; decide)
  · cases q.nd <;> (unfold low; decide)
  · cases q.oc <;> (unfold low; decide)
  · split
    · intro b hb
      simp at hb
    · exact low_append (l := [61]) (by unfold low; decide) (low_text _ _ _)

/-- What a column's word is read as. -/
def ColRd (l : Bs) (c : ACol) : Prop := (c.nm.size ≤ l.length ∧ c.s.size ≤ l.length) ∧ ∀ q : ACol, q.ok = true → l = colW q → c = q
theorem readV_le (l : Bs) : (readV l).2.2.1.length ≤ l.length := by
  have h := inner_le l
  unfold readV
  split
  · simp
  · split
    · exact h
    · split <;> simp
theorem cut_len1 (l : Bs) (c : UInt8) : (Lib.cut l [c]).1.length ≤ l.length := by
  unfold Lib.cut
  split
  · simp
    omega
  · simp
theorem setR_le (l : Bs) : (setR l).nm.size ≤ l.length ∧ (setR l).s.size ≤ l.length := by
  have h1 := cut_len1 l 61
  have h2 := readV_le (Lib.cut l [61]).2.1
  have h3 := cut_len l 61
  constructor
  · show (Lib.cut l [61]).1.toArray.size ≤ _
    simpa using h1
  · show (readV (Lib.cut l [61]).2.1).2.2.1.toArray.size ≤ _
    simp
    omega

end Go.Proofs.YtpcfebekkgfpjaaGreatDoor
