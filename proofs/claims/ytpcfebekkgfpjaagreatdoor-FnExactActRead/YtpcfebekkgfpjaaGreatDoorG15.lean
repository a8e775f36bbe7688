/- The contracts of impl.readKind, readHow, readId and readSet, over the seat's translation. -/
import Derived.Test.YtpcfebekkgfpjaaGreatDoorG14
namespace Go.Proofs.YtpcfebekkgfpjaaGreatDoor
open Go.RowKit

theorem list_of {s t : ByteArray} (h : s.toList = t.toList) : s.data.toList = t.data.toList := by simpa [ByteArray.toList_eq] using h
theorem not_list {s t : ByteArray} (h : ¬ s.toList = t.toList) : ¬ s.data.toList = t.data.toList := fun e => h (by simpa [ByteArray.toList_eq] using e)

theorem read_kind_one (j : Nat) (q : Int) (h1 : 1 ≤ j) (h2 : j ≤ 2) (hq : kindOk q = true) (h : (kindS j).data.toList = kindB q) : (j : Int) = q := by
  simp only [kindOk, Bool.or_eq_true, beq_iff_eq] at hq
  rcases (by omega : j = 1 ∨ j = 2) with rfl | rfl <;> rcases hq with rfl | rfl <;> first | rfl | exact absurd h (by decide)
theorem read_how_one (j : Nat) (q : Int) (h1 : 1 ≤ j) (h2 : j ≤ 3) (hq : howOk q = true) (h : (howS j).data.toList = howB q) : (j : Int) = q := by
  simp only [howOk, Bool.or_eq_true, beq_iff_eq] at hq
  rcases (by omega : j = 1 ∨ j = 2 ∨ j = 3) with rfl | rfl | rfl <;> rcases hq with rfl | rfl | rfl <;> first | rfl | exact absurd h (by decide)

set_option maxHeartbeats 1000000 in
theorem read_kind (t : ByteArray) (w : World) : Calls Tryz.prog 58 #[.string t] w fun e w' => ∃ k : Int, e = .returned (.int .i64 k) ∧ w' = w ∧ ∀ q, kindOk q = true → t.data.toList = kindB q → k = q := by
  go_enter Tryz.func58, Tryz.ntmps58
  go_wp2_with fail
  go_loop [3] (fun i => ∃ j : Nat, 1 ≤ j ∧ j ≤ 3 ∧ i = .int .i64 j ∧ Hid (∀ q, kindOk q = true → t.data.toList = kindB q → (j : Int) ≤ q)) (fun i => 4 - (intOf i).toNat)
  case atStart => exact ⟨1, by omega, by omega, rfl, (fun q hq _ => by simp only [kindOk, Bool.or_eq_true, beq_iff_eq] at hq; omega : ∀ q, kindOk q = true → t.data.toList = kindB q → ((1 : Nat) : Int) ≤ q)⟩
  case round =>
    obtain ⟨j, h1, h3, rfl, hH⟩ := hrel
    by_cases hlt : (j : Int) ≤ 2
    · go_wp2_with fail
      refine (kind_word j _).mono ?_
      rintro e wz ⟨rfl, hz⟩
      subst hz
      cases he : ((kindS j).toList == t.toList)
      · have hne := not_list (beq_eq_false_iff_ne.1 he)
        go_wp2_with fail
        go_round
        case rel => exact ⟨j + 1, by omega, by omega, by go_num, (fun q hq ht => by
          have hle := hH.out q hq ht
          have : ¬ (j : Int) = q := fun e => hne (by rw [ht, ← e]; rfl)
          omega : ∀ q, kindOk q = true → t.data.toList = kindB q → ((j + 1 : Nat) : Int) ≤ q)⟩
        case measure => simp [intOf]; omega
      · have h := list_of (beq_iff_eq.1 he)
        go_wp2_with fail
        go_ret
        refine ⟨_, rfl, rfl, fun q hq ht => ?_⟩
        exact read_kind_one j q (by omega) (by omega) hq (h.trans ht)
    · go_wp2_with fail
      go_ret
      refine ⟨_, rfl, rfl, fun q hq ht => ?_⟩
      have := hH.out q hq ht
      simp only [kindOk, Bool.or_eq_true, beq_iff_eq] at hq
      omega

set_option maxHeartbeats 1000000 in
theorem read_how (t : ByteArray) (w : World) : Calls Tryz.prog 54 #[.string t] w fun e w' => ∃ k : Int, e = .returned (.int .i64 k) ∧ w' = w ∧ ∀ q, howOk q = true → t.data.toList = howB q → k = q := by
  go_enter Tryz.func54, Tryz.ntmps54
  go_wp2_with fail
  go_loop [3] (fun i => ∃ j : Nat, 1 ≤ j ∧ j ≤ 4 ∧ i = .int .i64 j ∧ Hid (∀ q, howOk q = true → t.data.toList = howB q → (j : Int) ≤ q)) (fun i => 5 - (intOf i).toNat)
  case atStart => exact ⟨1, by omega, by omega, rfl, (fun q hq _ => by simp only [howOk, Bool.or_eq_true, beq_iff_eq] at hq; omega : ∀ q, howOk q = true → t.data.toList = howB q → ((1 : Nat) : Int) ≤ q)⟩
  case round =>
    obtain ⟨j, h1, h3, rfl, hH⟩ := hrel
    by_cases hlt : (j : Int) ≤ 3
    · go_wp2_with fail
      refine (how_word j _).mono ?_
      rintro e wz ⟨rfl, hz⟩
      subst hz
      cases he : ((howS j).toList == t.toList)
      · have hne := not_list (beq_eq_false_iff_ne.1 he)
        go_wp2_with fail
        go_round
        case rel => exact ⟨j + 1, by omega, by omega, by go_num, (fun q hq ht => by
          have hle := hH.out q hq ht
          have : ¬ (j : Int) = q := fun e => hne (by rw [ht, ← e]; rfl)
          omega : ∀ q, howOk q = true → t.data.toList = howB q → ((j + 1 : Nat) : Int) ≤ q)⟩
        case measure => simp [intOf]; omega
      · have h := list_of (beq_iff_eq.1 he)
        go_wp2_with fail
        go_ret
        refine ⟨_, rfl, rfl, fun q hq ht => ?_⟩
        exact read_how_one j q (by omega) (by omega) hq (h.trans ht)
    · go_wp2_with fail
      go_ret
      refine ⟨_, rfl, rfl, fun q hq ht => ?_⟩
      have := hH.out q hq ht
      simp only [howOk, Bool.or_eq_true, beq_iff_eq] at hq
      omega

theorem read_id (t : ByteArray) (w : World) (ht : t.size ≤ maxLen) (htab : Tb w) : Calls Tryz.prog 57 #[.string t] w fun e w' => e = .returned (.int .i64 ((readNum t.data.toList).getD 0)) ∧ Below w.heap.size w w' := by
  go_enter Tryz.func57, Tryz.ntmps57
  go_wp2_with fail
  refine (read_number t _ ht htab _ rfl).mono ?_
  rintro e w1 ⟨rfl, hb⟩
  go_wp2_with fail
  go_ret
  exact ⟨rfl, hb⟩

end Go.Proofs.YtpcfebekkgfpjaaGreatDoor

/- The contracts of spec.l5Kind, l5ReadKind and l5Col, over the seat's translation. -/
namespace Go.Proofs.YtpcfebekkgfpjaaGreatDoor
open Go.RowKit

theorem spec_kind (k : Int) (w : World) (hk : kindOk k = true) : Calls Tryz.prog 59 #[.int .i64 k] w fun e w' => e = .returned (.string (kindS k)) ∧ w' = w := by
  simp only [kindOk, Bool.or_eq_true, beq_iff_eq] at hk
  rcases hk with rfl | rfl
  all_goals
    go_enter Tryz.func59, Tryz.ntmps59
    go_wp2
    go_ret
    exact ⟨rfl, rfl⟩

theorem spec_read_kind (t : ByteArray) (w : World) : Calls Tryz.prog 118 #[.string t] w fun e w' => ∃ k : Int, e = .returned (.int .i64 k) ∧ w' = w ∧ ∀ q, kindOk q = true → t.data.toList = kindB q → k = q := by
  cases h1 : (t.toList == [110, 117, 109])
  · cases h2 : (t.toList == [116, 101, 120, 116])
    · go_enter Tryz.func118, Tryz.ntmps118
      go_wp2_with fail
      go_ret
      refine ⟨_, rfl, rfl, fun q hq ht => ?_⟩
      have e : t.toList = kindB q := by rw [ByteArray.toList_eq]; exact ht
      simp only [kindOk, Bool.or_eq_true, beq_iff_eq] at hq
      rcases hq with rfl | rfl
      · exact absurd e (beq_eq_false_iff_ne.1 h1)
      · exact absurd e (beq_eq_false_iff_ne.1 h2)
    · go_enter Tryz.func118, Tryz.ntmps118
      go_wp2_with fail
      go_ret
      refine ⟨_, rfl, rfl, fun q hq ht => ?_⟩
      have e : t.toList = kindB q := by rw [ByteArray.toList_eq]; exact ht
      rw [beq_iff_eq.1 h2] at e
      simp only [kindOk, Bool.or_eq_true, beq_iff_eq] at hq
      rcases hq with rfl | rfl
      · exact absurd e (by decide)
      · rfl
  · go_enter Tryz.func118, Tryz.ntmps118
    go_wp2_with fail
    go_ret
    refine ⟨_, rfl, rfl, fun q hq ht => ?_⟩
    have e : t.toList = kindB q := by rw [ByteArray.toList_eq]; exact ht
    rw [beq_iff_eq.1 h1] at e
    simp only [kindOk, Bool.or_eq_true, beq_iff_eq] at hq
    rcases hq with rfl | rfl
    · rfl
    · exact absurd e (by decide)

set_option maxRecDepth 100000 in
set_option maxHeartbeats 2000000 in
theorem spec_col_word (c : ACol) (w : World) (hok : c.ok = true) (htab : Tb w) :
    Calls Tryz.prog 21 #[.agg #[.string c.nm, .int .i64 c.kd, .bool c.nd, .bool c.oc, .int .i64 c.k, .int .i64 c.n, .string c.s]] w fun e w' => ∃ y, e = .returned (.string y) ∧ y.data.toList = colW c ∧ Below w.heap.size w w' := by
  have h1 : nameOk c.nm = true ∧ valOk c.k c.n c.s = true := by
    simp only [ACol.ok, colOk, Bool.and_eq_true] at hok
    exact ⟨hok.1, hok.2.2.1⟩
  have hs : Hid (c.s.size ≤ maxLen) := by show _ ≤ maxLen; have := val_le h1.2; unfold maxLen; omega
  have hko : kindOk c.kd = true := by
    simp only [ACol.ok, colOk, Bool.and_eq_true] at hok
    simpa [kindOk] using hok.2.1
  have hn := name_le h1.1
  have hk := kindS_le c.kd
  obtain ⟨x, hx, hX, hE⟩ := word_text c.k c.n c.s (by have := val_le h1.2; omega)
  have HX : Hid (x.data.toList = textV c.k c.n c.s ∧ x = ⟨(textV c.k c.n c.s).toArray⟩) := ⟨hX, hE⟩
  have HS : Hid (WordS w [.string c.nm, .int .i64 c.kd, .bool c.nd, .bool c.oc, .int .i64 c.k, .int .i64 c.n, .string c.s] (w.alloc (.cells #[.string c.nm, .int .i64 c.kd, .bool c.nd, .bool c.oc, .int .i64 c.k, .int .i64 c.n, .string c.s] 28))) := WordS.start _ _ _ htab
  have inh : Nonempty (Over (WordS w [.string c.nm, .int .i64 c.kd, .bool c.nd, .bool c.oc, .int .i64 c.k, .int .i64 c.n, .string c.s])) := ⟨⟨_, HS.out⟩⟩
  have g0 : ∀ p : Over (WordS w [.string c.nm, .int .i64 c.kd, .bool c.nd, .bool c.oc, .int .i64 c.k, .int .i64 c.n, .string c.s]), p.W.cell? ⟨w.heap.size, 0, none⟩ = some (.string c.nm) ∧ p.W.cell? ⟨w.heap.size, 1, none⟩ = some (.int .i64 c.kd) ∧ p.W.cell? ⟨w.heap.size, 2, none⟩ = some (.bool c.nd) ∧ p.W.cell? ⟨w.heap.size, 3, none⟩ = some (.bool c.oc) ∧ p.W.cell? ⟨w.heap.size, 4, none⟩ = some (.int .i64 c.k) ∧ p.W.cell? ⟨w.heap.size, 5, none⟩ = some (.int .i64 c.n) ∧ p.W.cell? ⟨w.heap.size, 6, none⟩ = some (.string c.s) := fun p => box7 p.ok.1.1
  have hcon : ∀ p : Over (WordS w [.string c.nm, .int .i64 c.kd, .bool c.nd, .bool c.oc, .int .i64 c.k, .int .i64 c.n, .string c.s]), Calls Tryz.prog 59 #[.int .i64 c.kd] p.W fun e w' => e = .returned (.string (kindS c.kd)) ∧ Below p.W.heap.size p.W w' := fun p => (spec_kind c.kd p.W hko).mono fun _ _ ⟨he, hw⟩ => ⟨he, hw ▸ Below.refl _ _⟩
  clear htab hok h1 hE hX hko
  go_enter Tryz.func21, Tryz.ntmps21
  go_wp2_with fail
  refine wp_region_over (S := WordS w [.string c.nm, .int .i64 c.kd, .bool c.nd, .bool c.oc, .int .i64 c.k, .int .i64 c.n, .string c.s]) (by kernel_rfl) (by kernel_rfl) (HS.out.next (Below.refl _ _).drew) ?_
  repeat (go_big_quiet_step (exact over_call (hcon _) (fun _ h => WordS.next (Over.ok _) h)))
  refine wpQuiet_nil ?_
  rintro wq ⟨pp, hp⟩
  have hZ := pp.ok
  rw [← hp] at hZ
  have HZ : Hid (WordS w [.string c.nm, .int .i64 c.kd, .bool c.nd, .bool c.oc, .int .i64 c.k, .int .i64 c.n, .string c.s] wq) := hZ
  have y1 := box7 hZ.1.1
  clear hp pp g0 inh hZ hcon HS
  cases hnd : c.nd <;> cases hoc : c.oc <;> cases hk0 : (c.k == 0)
  all_goals
    have q0 : (c.k != 0) = !(c.k == 0) := rfl
    rw [hk0] at q0
    simp only [Bool.not_false, Bool.not_true] at q0
    go_wp2_with (go_at_call 60; refine (spec_text c.k c.n c.s _ hs.out).mono ?_; rw [← HX.out.2]; rintro e w2 ⟨rfl, hb⟩; have HB : Hid (Below w.heap.size w w2) := HZ.out.1.2.2.trans (hb.mono HZ.out.1.2.2.size); clear hb)
    go_ret
    first
      | (refine ⟨_, rfl, ?_, HB.out⟩
         simp [colW, kindB, hnd, hoc, beq_eq_false_iff_ne.1 hk0, HX.out.1]
         done)
      | (refine ⟨_, rfl, ?_, HZ.out.1.2.2⟩
         simp [colW, kindB, hnd, hoc, beq_iff_eq.1 hk0])

end Go.Proofs.YtpcfebekkgfpjaaGreatDoor

/- The contracts of spec.l5How and l5ReadHow, over the seat's translation. -/
namespace Go.Proofs.YtpcfebekkgfpjaaGreatDoor
open Go.RowKit

theorem spec_how (k : Int) (w : World) (hk : 1 ≤ k ∧ k ≤ 3) : Calls Tryz.prog 22 #[.int .i64 k] w fun e w' => e = .returned (.string (howS k)) ∧ Below w.heap.size w w' := by
  have h : k = 1 ∨ k = 2 ∨ k = 3 := by omega
  rcases h with rfl | rfl | rfl
  all_goals
    go_enter Tryz.func22, Tryz.ntmps22
    go_wp2_with fail
    go_ret
    exact ⟨rfl, (Below.refl _ _).alloc (Nat.le_refl _) _⟩

set_option maxHeartbeats 1000000 in
theorem spec_read_how (t : ByteArray) (w : World) : Calls Tryz.prog 80 #[.string t] w fun e w' => ∃ k : Int, e = .returned (.int .i64 k) ∧ Below w.heap.size w w' ∧ ∀ q, howOk q = true → t.data.toList = howB q → k = q := by
  go_enter Tryz.func80, Tryz.ntmps80
  go_wp2_with fail
  go_loopw [3] (fun i wr => ∃ j : Nat, 1 ≤ j ∧ j ≤ 4 ∧ i = .int .i64 j ∧ Hid (Below w.heap.size w wr ∧ ∀ q, howOk q = true → t.data.toList = howB q → (j : Int) ≤ q)) (fun i _ => 5 - (intOf i).toNat)
  case atStart => exact ⟨1, by omega, by omega, rfl, (⟨Below.refl _ _, fun q hq _ => by simp only [howOk, Bool.or_eq_true, beq_iff_eq] at hq; omega⟩ : Below w.heap.size w w ∧ ∀ q, howOk q = true → t.data.toList = howB q → ((1 : Nat) : Int) ≤ q)⟩
  case round =>
    obtain ⟨j, h1, h3, rfl, hH⟩ := hrel
    by_cases hlt : (j : Int) ≤ 3
    · go_wp2_with fail
      refine (spec_how j _ ⟨by omega, hlt⟩).mono ?_
      rintro e wz ⟨rfl, hz⟩
      have HB : Hid (Below w.heap.size w wz) := hH.out.1.trans (hz.mono hH.out.1.size)
      clear hz
      cases he : ((howS j).toList == t.toList)
      · have hne := not_list (beq_eq_false_iff_ne.1 he)
        go_wp2_with fail
        go_roundw
        case rel => exact ⟨j + 1, by omega, by omega, by go_num, (⟨HB.out, fun q hq ht => by
          have hle := hH.out.2 q hq ht
          have : ¬ (j : Int) = q := fun e => hne (by rw [ht, ← e]; rfl)
          omega⟩ : Below w.heap.size w wz ∧ ∀ q, howOk q = true → t.data.toList = howB q → ((j + 1 : Nat) : Int) ≤ q)⟩
        case measure => simp [intOf]; omega
      · have h := list_of (beq_iff_eq.1 he)
        go_wp2_with fail
        go_ret
        refine ⟨_, rfl, HB.out, fun q hq ht => ?_⟩
        exact read_how_one j q (by omega) (by omega) hq (h.trans ht)
    · go_wp2_with fail
      go_ret
      refine ⟨_, rfl, hH.out.1, fun q hq ht => ?_⟩
      have := hH.out.2 q hq ht
      simp only [howOk, Bool.or_eq_true, beq_iff_eq] at hq
      omega

end Go.Proofs.YtpcfebekkgfpjaaGreatDoor

/- The contract of spec.l5Vals, over the seat's translation. -/
namespace Go.Proofs.YtpcfebekkgfpjaaGreatDoor
open Go.RowKit

/-- A value told lies in W, and W lies over w. -/
abbrev OneSet (w : World) (b o : Nat) (c : ASet) (W : World) : Prop := CellsS W b o c ∧ b < W.heap.size ∧ Below w.heap.size w W
theorem ones_next {w : World} {b o : Nat} {c : ASet} {W W' : World} (h : OneSet w b o c W) (hb : Below W.heap.size W W') : OneSet w b o c W' :=
  ⟨cellsS_next h.1 h.2.1 hb, Nat.lt_of_lt_of_le h.2.1 hb.size, h.2.2.trans (hb.mono h.2.2.size)⟩
theorem ones_drew {w : World} {b o : Nat} {c : ASet} {W : World} (h : OneSet w b o c W) : OneSet w b o c W.drew := ones_next h (Below.refl _ _).drew

/-- Values told, each with a space ahead. -/
def valsB (L : List ASet) : Bs := L.flatMap fun c => 32 :: setW c

set_option maxRecDepth 100000 in
set_option maxHeartbeats 2000000 in
theorem spec_vals (a : Option Addr) (cap : Nat) (L : List ASet) (w : World) (ha : SetsAt w a L) (hok : ∀ c ∈ L, c.ok = true) (hm : L.length ≤ 5) :
    Calls Tryz.prog 23 #[.slice a L.length cap] w fun e w' => ∃ y, e = .returned (.string y) ∧ y.data.toList = valsB L ∧ Below w.heap.size w w' := by
  go_enter Tryz.func23, Tryz.ntmps23
  go_wp2_with fail
  go_loopw [3, 4] (fun v0 i wr => ∃ (k : Nat) (y : ByteArray), v0 = .string y ∧ k ≤ L.length ∧ i = .int .i64 k ∧ y.size ≤ k * 20 ∧ Hid (y.data.toList = valsB (L.take k) ∧ Below w.heap.size w wr)) (fun _ i _ => L.length - (intOf i).toNat)
  case atStart => exact ⟨0, ⟨#[]⟩, rfl, Nat.zero_le _, rfl, Nat.le_refl _, ⟨rfl, Below.refl _ _⟩⟩
  case round =>
    obtain ⟨k, y, rfl, hk, rfl, hy, hH⟩ := hrel
    by_cases hlt : k < L.length
    · obtain ⟨b, o, hab, hbl, hr⟩ := (ha.keep hH.out.2).at hlt
      have hc := List.getElem?_eq_getElem hlt
      have hck := hok _ (List.getElem_mem hlt)
      revert hr hc hck
      generalize L[k] = c
      intro hr hc hck
      have hix : ∀ wx, (Instr.indexAt 23 (.slice a L.length cap) (.int .i64 k)).run Tryz.prog wx = .ok (.pointer (some ⟨b, o + k * 4, none⟩)) wx := fun wx => by
        rw [hab]; exact run_ixk 4 _ _ _ _ _ _ _ wx hlt Tryz.underlying23 (Tryz.sizeOf102 wx)
      have h1 : nameOk c.nm = true ∧ valOk c.k c.n c.s = true := by simpa only [ASet.ok, Bool.and_eq_true] using hck
      have hn := name_le h1.1
      have hv := val_le h1.2
      have hs : Hid (c.s.size ≤ maxLen) := by show _ ≤ maxLen; unfold maxLen; omega
      obtain ⟨x, hx, hX, hE⟩ := word_text c.k c.n c.s (by omega)
      have HX : Hid (x.data.toList = textV c.k c.n c.s ∧ x = ⟨(textV c.k c.n c.s).toArray⟩) := ⟨hX, hE⟩
      have hT : OneSet w b (o + k * 4) c wr := ⟨cellsS_of hr, hbl, hH.out.2⟩
      have hC : Hid (L[k]? = some c ∧ y.data.toList = valsB (L.take k)) := ⟨hc, hH.out.1⟩
      have hy1 : y.size ≤ 100 := by omega
      have inh : Nonempty (Over (OneSet w b (o + k * 4) c)) := ⟨⟨_, hT⟩⟩
      have g0 : ∀ p : Over (OneSet w b (o + k * 4) c), p.W.cell? ⟨b, o + k * 4, none⟩ = some (.string c.nm) ∧ p.W.cell? ⟨b, o + k * 4 + 1, none⟩ = some (.int .i64 c.k) ∧ p.W.cell? ⟨b, o + k * 4 + 2, none⟩ = some (.int .i64 c.n) ∧ p.W.cell? ⟨b, o + k * 4 + 3, none⟩ = some (.string c.s) := fun p => p.ok.1
      have hcon : ∀ p : Over (OneSet w b (o + k * 4) c), Calls Tryz.prog 60 #[.agg #[.int .i64 c.k, .int .i64 c.n, .string c.s]] p.W fun e w' => e = .returned (.string x) ∧ Below p.W.heap.size p.W w' := fun p => by rw [HX.out.2]; exact spec_text c.k c.n c.s p.W hs.out
      have HS : Hid (OneSet w b (o + k * 4) c wr) := hT
      clear hab hr ha hbl hc hck hok hX hE h1 hv hH hT
      go_wp2_with fail
      refine wp_region_over (S := OneSet w b (o + k * 4) c) (by kernel_rfl) (by kernel_rfl) (ones_drew HS.out) ?_
      repeat (go_big_quiet_step (exact over_call (hcon _) (fun _ h => ones_next (Over.ok _) h)))
      refine wpQuiet_nil ?_
      rintro wq ⟨pp, hp⟩
      have hZ := pp.ok
      rw [← hp] at hZ
      have hP : Hid (Below w.heap.size w wq) := hZ.2.2
      clear hp pp g0 inh hZ hcon HS
      go_wp2_with fail
      go_roundw
      case rel =>
        refine ⟨k + 1, _, rfl, by omega, by go_num, ?_, ⟨?_, hP.out⟩⟩
        · simp only [ByteArray.size_append]
          have e1 : (⟨#[32]⟩ : ByteArray).size = 1 := rfl
          have e2 : (⟨#[61]⟩ : ByteArray).size = 1 := rfl
          omega
        · obtain ⟨hk2, e⟩ := List.getElem?_eq_some_iff.1 hC.out.1
          rw [List.take_succ_eq_append_getElem hk2, e]
          simp [valsB, setW, hC.out.2, HX.out.1]
      case measure => simp [intOf]; omega
    · have hkl : k = L.length := by omega
      subst hkl
      go_wp2_with fail
      go_ret
      exact ⟨y, rfl, by rw [hH.out.1, List.take_length], hH.out.2⟩

end Go.Proofs.YtpcfebekkgfpjaaGreatDoor

/- The contract of spec.l5Turn, over the seat's translation. -/
namespace Go.Proofs.YtpcfebekkgfpjaaGreatDoor
open Go.RowKit

set_option maxRecDepth 100000 in
set_option maxHeartbeats 2000000 in
theorem spec_turn2 (nm : ByteArray) (g : AChg) (w : World) (hn : nm.size ≤ 3) (hn2 : g.nm.size ≤ 3) (g2 : (g.kd == 2) = true) :
    Calls Tryz.prog 25 #[.string nm, .agg #[.int .i64 g.kd, .string g.nm, .string g.nw, .string g.c.nm, .int .i64 g.c.kd, .bool g.c.nd, .bool g.c.oc, .int .i64 g.c.k, .int .i64 g.c.n, .string g.c.s]] w fun e w' => ∃ y, e = .returned (.string y) ∧ y.data.toList = joinB 32 [[100, 114, 111, 112], nm.data.toList, g.nm.data.toList] ∧ Below w.heap.size w w' := by
  have g1 : (g.kd == 1) = false := by rw [beq_iff_eq.1 g2]; rfl
  go_enter Tryz.func25, Tryz.ntmps25
  go_wp2_with fail
  go_ret
  exact ⟨_, rfl, by simp [joinB], (Below.refl _ _).alloc (Nat.le_refl _) _⟩

set_option maxRecDepth 100000 in
set_option maxHeartbeats 2000000 in
theorem spec_turn3 (nm : ByteArray) (g : AChg) (w : World) (hn : nm.size ≤ 3) (hn2 : g.nm.size ≤ 3) (hn3 : g.nw.size ≤ 3) (g3 : (g.kd == 3) = true) :
    Calls Tryz.prog 25 #[.string nm, .agg #[.int .i64 g.kd, .string g.nm, .string g.nw, .string g.c.nm, .int .i64 g.c.kd, .bool g.c.nd, .bool g.c.oc, .int .i64 g.c.k, .int .i64 g.c.n, .string g.c.s]] w fun e w' => ∃ y, e = .returned (.string y) ∧ y.data.toList = joinB 32 [[110, 97, 109, 101], nm.data.toList, g.nm.data.toList, g.nw.data.toList] ∧ Below w.heap.size w w' := by
  have g1 : (g.kd == 1) = false := by rw [beq_iff_eq.1 g3]; rfl
  have g2 : (g.kd == 2) = false := by rw [beq_iff_eq.1 g3]; rfl
  go_enter Tryz.func25, Tryz.ntmps25
  go_wp2_with fail
  go_ret
  exact ⟨_, rfl, by simp [joinB], (Below.refl _ _).alloc (Nat.le_refl _) _⟩

set_option maxRecDepth 100000 in
set_option maxHeartbeats 2000000 in
theorem spec_turn4 (nm : ByteArray) (g : AChg) (w : World) (hn : nm.size ≤ 3) (hn2 : g.nm.size ≤ 3) (hok : kindOk g.c.kd = true) (htab : Tb w) (g4 : (g.kd == 4) = true) :
    Calls Tryz.prog 25 #[.string nm, .agg #[.int .i64 g.kd, .string g.nm, .string g.nw, .string g.c.nm, .int .i64 g.c.kd, .bool g.c.nd, .bool g.c.oc, .int .i64 g.c.k, .int .i64 g.c.n, .string g.c.s]] w fun e w' => ∃ y, e = .returned (.string y) ∧ y.data.toList = joinB 32 [[107, 105, 110, 100], nm.data.toList, g.nm.data.toList, kindB g.c.kd] ∧ Below w.heap.size w w' := by
  have g1 : (g.kd == 1) = false := by rw [beq_iff_eq.1 g4]; rfl
  have g2 : (g.kd == 2) = false := by rw [beq_iff_eq.1 g4]; rfl
  have g3 : (g.kd == 3) = false := by rw [beq_iff_eq.1 g4]; rfl
  have hk := kindS_le g.c.kd
  have HS : Hid (WordS w [.int .i64 g.kd, .string g.nm, .string g.nw, .string g.c.nm, .int .i64 g.c.kd, .bool g.c.nd, .bool g.c.oc, .int .i64 g.c.k, .int .i64 g.c.n, .string g.c.s] (w.alloc (.cells #[.int .i64 g.kd, .string g.nm, .string g.nw, .string g.c.nm, .int .i64 g.c.kd, .bool g.c.nd, .bool g.c.oc, .int .i64 g.c.k, .int .i64 g.c.n, .string g.c.s] 30))) := WordS.start _ _ _ htab
  have inh : Nonempty (Over (WordS w [.int .i64 g.kd, .string g.nm, .string g.nw, .string g.c.nm, .int .i64 g.c.kd, .bool g.c.nd, .bool g.c.oc, .int .i64 g.c.k, .int .i64 g.c.n, .string g.c.s])) := ⟨⟨_, HS.out⟩⟩
  have g0 : ∀ p : Over (WordS w [.int .i64 g.kd, .string g.nm, .string g.nw, .string g.c.nm, .int .i64 g.c.kd, .bool g.c.nd, .bool g.c.oc, .int .i64 g.c.k, .int .i64 g.c.n, .string g.c.s]), p.W.cell? ⟨w.heap.size, 0, none⟩ = some (.int .i64 g.kd) ∧ p.W.cell? ⟨w.heap.size, 1, none⟩ = some (.string g.nm) ∧ p.W.cell? ⟨w.heap.size, 2, none⟩ = some (.string g.nw) ∧ p.W.cell? ⟨w.heap.size, 3, none⟩ = some (.string g.c.nm) ∧ p.W.cell? ⟨w.heap.size, 4, none⟩ = some (.int .i64 g.c.kd) ∧ p.W.cell? ⟨w.heap.size, 5, none⟩ = some (.bool g.c.nd) ∧ p.W.cell? ⟨w.heap.size, 6, none⟩ = some (.bool g.c.oc) ∧ p.W.cell? ⟨w.heap.size, 7, none⟩ = some (.int .i64 g.c.k) ∧ p.W.cell? ⟨w.heap.size, 8, none⟩ = some (.int .i64 g.c.n) ∧ p.W.cell? ⟨w.heap.size, 9, none⟩ = some (.string g.c.s) := fun p => ⟨p.ok.1.1 0 _ rfl, p.ok.1.1 1 _ rfl, p.ok.1.1 2 _ rfl, p.ok.1.1 3 _ rfl, p.ok.1.1 4 _ rfl, p.ok.1.1 5 _ rfl, p.ok.1.1 6 _ rfl, p.ok.1.1 7 _ rfl, p.ok.1.1 8 _ rfl, p.ok.1.1 9 _ rfl⟩
  have hcon : ∀ p : Over (WordS w [.int .i64 g.kd, .string g.nm, .string g.nw, .string g.c.nm, .int .i64 g.c.kd, .bool g.c.nd, .bool g.c.oc, .int .i64 g.c.k, .int .i64 g.c.n, .string g.c.s]), Calls Tryz.prog 59 #[.int .i64 g.c.kd] p.W fun e w' => e = .returned (.string (kindS g.c.kd)) ∧ Below p.W.heap.size p.W w' := fun p => (spec_kind g.c.kd p.W hok).mono fun _ _ ⟨he, hw⟩ => ⟨he, hw ▸ Below.refl _ _⟩
  clear htab hok
  go_enter Tryz.func25, Tryz.ntmps25
  go_wp2_with fail
  refine wp_region_over (S := WordS w [.int .i64 g.kd, .string g.nm, .string g.nw, .string g.c.nm, .int .i64 g.c.kd, .bool g.c.nd, .bool g.c.oc, .int .i64 g.c.k, .int .i64 g.c.n, .string g.c.s]) (by kernel_rfl) (by kernel_rfl) (HS.out.next (Below.refl _ _).drew) ?_
  repeat (go_big_quiet_step (exact over_call (hcon _) (fun _ h => WordS.next (Over.ok _) h)))
  refine wpQuiet_nil ?_
  rintro wq ⟨pp, hp⟩
  have hZ := pp.ok
  rw [← hp] at hZ
  have HZ : Hid (Below w.heap.size w wq) := hZ.1.2.2
  clear hp pp g0 inh hZ hcon HS
  go_wp2_with fail
  go_ret
  exact ⟨_, rfl, by simp [joinB, kindB], HZ.out⟩

end Go.Proofs.YtpcfebekkgfpjaaGreatDoor
