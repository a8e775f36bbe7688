/- The contracts of spec.l5Cols, l5Sets, l5Link and l5Change, over the seat's translation. -/
import Derived.Test.YtacindondkcaiaaGreatAcI2
namespace Go.Proofs.YtacindondkcaiaaGreat
open Go.RowKit

set_option maxRecDepth 100000 in
set_option maxHeartbeats 1000000 in
theorem spec_cols (a : Option Addr) (cap : Nat) (L : List ACol) (w : World) (ha : ColsAt w a L) (hf : ∀ c ∈ L, c.fit) (hm : L.length ≤ maxLen) :
    Calls Tryz.prog 15 #[.slice a L.length cap] w fun e w' => e = .returned (.bool (colsOk L)) ∧ Below w.heap.size w w' := by
  unfold maxLen at hm
  go_enter Tryz.func15, Tryz.ntmps15
  go_wp2_with fail
  go_loopw [3] (fun i wr => ∃ k : Nat, k ≤ L.length ∧ i = .int .i64 k ∧ Hid ((L.take k).all ACol.ok = true ∧ Below w.heap.size w wr)) (fun i _ => L.length - (intOf i).toNat)
  case atStart => exact ⟨0, Nat.zero_le _, rfl, ⟨rfl, Below.refl _ _⟩⟩
  case round =>
    obtain ⟨k, hk, rfl, hH⟩ := hrel
    by_cases hlt : k < L.length
    · obtain ⟨b, o, hab, hbl, hr⟩ := (ha.keep hH.out.2).at hlt
      have hc := List.getElem?_eq_getElem hlt
      have hft := hf _ (List.getElem_mem hlt)
      revert hr hc hft
      generalize L[k] = c
      intro hr hc hft
      have hix : ∀ wx, (Instr.indexAt 37 (.slice a L.length cap) (.int .i64 k)).run Tryz.prog wx = .ok (.pointer (some ⟨b, o + k * 7, none⟩)) wx := fun wx => by
        rw [hab]; exact run_ix _ _ _ _ _ _ _ wx hlt Tryz.underlying37 (Tryz.sizeOf40 wx)
      have hT := cells7_of hr
      have hC : Hid (L[k]? = some c ∧ c.fit) := ⟨hc, hft⟩
      clear hab hr ha hbl hc hft hf
      go_wp2_with fail
      refine (spec_col c.nm c.kd c.nd c.oc c.k c.n c.s _ hC.out.2.1 hC.out.2.2).mono ?_
      rintro e w' ⟨rfl, hq⟩
      have hP : Hid ((L.take k).all ACol.ok = true ∧ Below w.heap.size w w') := ⟨hH.out.1, hH.out.2.trans (hq.mono hH.out.2.size)⟩
      clear hT hq hH
      cases hs : colOk c.nm c.kd c.oc c.k c.n c.s
      · go_wp2_with fail
        go_ret
        exact ⟨ret_bool (by simp only [colsOk, all_bad ACol.ok L k c hC.out.1 hs, Bool.false_and]), hP.out.2⟩
      · go_wp2_with fail
        go_roundw
        case rel => exact ⟨k + 1, by omega, by go_num, ⟨all_next ACol.ok L k c hC.out.1 hP.out.1 hs, hP.out.2⟩⟩
        case measure => simp [intOf]; omega
    · have hkl : k = L.length := by omega
      subst hkl
      have h := hH.out.1
      rw [List.take_length] at h
      have hv : colsOk L = (decide (1 ≤ L.length) && decide (L.length ≤ 5)) := by simp only [colsOk, h, Bool.true_and]
      have HV : Hid (colsOk L = (decide (1 ≤ L.length) && decide (L.length ≤ 5))) := hv
      clear hv h
      by_cases h1 : (1 : Int) ≤ L.length
      · have h1' : 1 ≤ L.length := by omega
        go_wp2_with fail
        all_goals
          go_ret
          refine ⟨ret_bool ?_, hH.out.2⟩
          rw [HV.out, Bool.eq_iff_iff]
          simp only [Bool.and_eq_true, decide_eq_true_eq, h1', true_and]
          omega
      · have h1' : ¬ 1 ≤ L.length := by omega
        go_wp2_with fail
        go_ret
        exact ⟨ret_bool (by rw [HV.out]; simp only [h1', decide_false, Bool.false_and]), hH.out.2⟩

set_option maxRecDepth 100000 in
set_option maxHeartbeats 1000000 in
theorem spec_sets (a : Option Addr) (cap : Nat) (L : List ASet) (w : World) (ha : SetsAt w a L) (hf : ∀ c ∈ L, c.fit) (hm : L.length ≤ maxLen) :
    Calls Tryz.prog 17 #[.slice a L.length cap] w fun e w' => e = .returned (.bool (setsOk L)) ∧ Below w.heap.size w w' := by
  unfold maxLen at hm
  go_enter Tryz.func17, Tryz.ntmps17
  go_wp2_with fail
  go_loopw [3] (fun i wr => ∃ k : Nat, k ≤ L.length ∧ i = .int .i64 k ∧ Hid ((L.take k).all ASet.ok = true ∧ Below w.heap.size w wr)) (fun i _ => L.length - (intOf i).toNat)
  case atStart => exact ⟨0, Nat.zero_le _, rfl, ⟨rfl, Below.refl _ _⟩⟩
  case round =>
    obtain ⟨k, hk, rfl, hH⟩ := hrel
    by_cases hlt : k < L.length
    · obtain ⟨b, o, hab, hbl, hr⟩ := (ha.keep hH.out.2).at hlt
      have hc := List.getElem?_eq_getElem hlt
      have hft := hf _ (List.getElem_mem hlt)
      revert hr hc hft
      generalize L[k] = c
      intro hr hc hft
      have hix : ∀ wx, (Instr.indexAt 36 (.slice a L.length cap) (.int .i64 k)).run Tryz.prog wx = .ok (.pointer (some ⟨b, o + k * 4, none⟩)) wx := fun wx => by
        rw [hab]; exact run_ixk 4 _ _ _ _ _ _ _ wx hlt Tryz.underlying36 (Tryz.sizeOf76 wx)
      have hT := cellsS_of hr
      have hC : Hid (L[k]? = some c ∧ c.fit) := ⟨hc, hft⟩
      clear hab hr ha hbl hc hft hf
      go_wp2_with fail
      refine (l2_name _ _ hC.out.2.1).mono ?_
      rintro e w' ⟨rfl, hq⟩
      subst hq
      cases hn : nameOk c.nm
      · have hs : c.ok = false := by simp only [ASet.ok, hn, Bool.false_and]
        go_wp2_with fail
        go_ret
        exact ⟨ret_bool (by simp only [setsOk, all_bad ASet.ok L k c hC.out.1 hs, Bool.false_and]), hH.out.2⟩
      · go_wp2_with fail
        refine (spec_ok _ _ _ _ hC.out.2.2).mono ?_
        rintro e w1 ⟨rfl, hq⟩
        have hP : Hid ((L.take k).all ASet.ok = true ∧ Below w.heap.size w w1) := ⟨hH.out.1, hH.out.2.trans (hq.mono hH.out.2.size)⟩
        clear hT hq hH
        cases hv : valOk c.k c.n c.s
        · have hs : c.ok = false := by simp only [ASet.ok, hv, Bool.and_false]
          go_wp2_with fail
          go_ret
          exact ⟨ret_bool (by simp only [setsOk, all_bad ASet.ok L k c hC.out.1 hs, Bool.false_and]), hP.out.2⟩
        · have hs : c.ok = true := by simp only [ASet.ok, hn, hv, Bool.and_self]
          go_wp2_with fail
          go_roundw
          case rel => exact ⟨k + 1, by omega, by go_num, ⟨all_next ASet.ok L k c hC.out.1 hP.out.1 hs, hP.out.2⟩⟩
          case measure => simp [intOf]; omega
    · have hkl : k = L.length := by omega
      subst hkl
      have h := hH.out.1
      rw [List.take_length] at h
      have hv : setsOk L = decide (L.length ≤ 5) := by simp only [setsOk, h, Bool.true_and]
      have HV : Hid (setsOk L = decide (L.length ≤ 5)) := hv
      clear hv h
      go_wp2_with fail
      all_goals
        go_ret
        refine ⟨ret_bool ?_, hH.out.2⟩
        rw [HV.out, Bool.eq_iff_iff]
        simp only [decide_eq_true_eq]
        omega

set_option maxRecDepth 100000 in
set_option maxHeartbeats 1000000 in
theorem spec_link (l : ALnk) (w : World) (hf : l.fit) : Calls Tryz.prog 16 #[.agg #[.string l.fr, .string l.co, .string l.tt, .int .i64 l.hw]] w fun e w' => e = .returned (.bool (linkOk l)) ∧ Below w.heap.size w w' := by
  have hB : Hid (Below w.heap.size w (w.alloc (.cells #[.string l.fr, .string l.co, .string l.tt, .int .i64 l.hw] 43))) := (Below.refl _ _).alloc (Nat.le_refl _) _
  go_enter Tryz.func16, Tryz.ntmps16
  go_wp2_with fail
  refine (l2_name l.fr _ hf.1).mono ?_
  rintro e wz ⟨rfl, hz⟩
  subst hz
  cases hn0 : nameOk l.fr
  case false =>
    go_wp2_with fail
    go_ret
    exact ⟨ret_bool (by simp [linkOk, hn0]), hB.out⟩
  go_wp2_with fail
  refine (l2_name l.co _ hf.2.1).mono ?_
  rintro e wz ⟨rfl, hz⟩
  subst hz
  cases hn1 : nameOk l.co
  case false =>
    go_wp2_with fail
    go_ret
    exact ⟨ret_bool (by simp [linkOk, hn1]), hB.out⟩
  go_wp2_with fail
  refine (l2_name l.tt _ hf.2.2).mono ?_
  rintro e wz ⟨rfl, hz⟩
  subst hz
  cases hn2 : nameOk l.tt
  case false =>
    go_wp2_with fail
    go_ret
    exact ⟨ret_bool (by simp [linkOk, hn2]), hB.out⟩
  have hv : linkOk l = (decide (1 ≤ l.hw) && decide (l.hw ≤ 3)) := by simp only [linkOk, hn0, hn1, hn2, Bool.true_and]
  have HV : Hid (linkOk l = (decide (1 ≤ l.hw) && decide (l.hw ≤ 3))) := hv
  clear hv
  by_cases h1 : 1 ≤ l.hw
  · go_wp2_with fail
    all_goals
      go_ret
      refine ⟨ret_bool ?_, hB.out⟩
      rw [HV.out, Bool.eq_iff_iff]
      simp only [Bool.and_eq_true, decide_eq_true_eq, h1, true_and]
  · go_wp2_with fail
    go_ret
    refine ⟨ret_bool ?_, hB.out⟩
    rw [HV.out, Bool.eq_iff_iff]
    simp only [Bool.and_eq_true, decide_eq_true_eq, Bool.false_eq_true, false_iff]
    omega

set_option maxHeartbeats 1000000 in
theorem eql_col (c d : ACol) (w : World) :
    (binOp .eql 40 (.agg #[.string c.nm, .int .i64 c.kd, .bool c.nd, .bool c.oc, .int .i64 c.k, .int .i64 c.n, .string c.s]) (.agg #[.string d.nm, .int .i64 d.kd, .bool d.nd, .bool d.oc, .int .i64 d.k, .int .i64 d.n, .string d.s])).run Tryz.prog w = .ok (.bool (eqC c d)) w := by
  unfold eqC
  go_simp
  by_cases a : c.nm.toList = d.nm.toList <;> by_cases b : c.kd = d.kd <;> by_cases e : c.nd = d.nd <;> by_cases f : c.oc = d.oc <;> by_cases g : c.k = d.k <;> by_cases h : c.n = d.n <;> by_cases i : c.s.toList = d.s.toList <;> simp [a, b, e, f, g, h, i]
theorem isEmpty_beq (l : List UInt8) : l.isEmpty = (l == []) := by cases l <;> rfl

theorem box10 {W : World} {B : Nat} {v0 v1 v2 v3 v4 v5 v6 v7 v8 v9 : Value} (h : W.rangeAt B 0 [v0, v1, v2, v3, v4, v5, v6, v7, v8, v9]) : W.cell? ⟨B, 0, none⟩ = some v0 ∧ W.cell? ⟨B, 1, none⟩ = some v1 ∧ W.cell? ⟨B, 2, none⟩ = some v2 ∧ W.cell? ⟨B, 3, none⟩ = some v3 ∧ W.cell? ⟨B, 4, none⟩ = some v4 ∧ W.cell? ⟨B, 5, none⟩ = some v5 ∧ W.cell? ⟨B, 6, none⟩ = some v6 ∧ W.cell? ⟨B, 7, none⟩ = some v7 ∧ W.cell? ⟨B, 8, none⟩ = some v8 ∧ W.cell? ⟨B, 9, none⟩ = some v9 := ⟨h 0 _ rfl, h 1 _ rfl, h 2 _ rfl, h 3 _ rfl, h 4 _ rfl, h 5 _ rfl, h 6 _ rfl, h 7 _ rfl, h 8 _ rfl, h 9 _ rfl⟩

set_option maxRecDepth 100000 in
set_option maxHeartbeats 2000000 in
theorem spec_chg1 (g : AChg) (w : World) (hf : g.fit) (g1 : (g.kd == 1) = true) :
    Calls Tryz.prog 18 #[.agg #[.int .i64 g.kd, .string g.nm, .string g.nw, .string g.c.nm, .int .i64 g.c.kd, .bool g.c.nd, .bool g.c.oc, .int .i64 g.c.k, .int .i64 g.c.n, .string g.c.s]] w fun e w' => e = .returned (.bool (specChg g)) ∧ Below w.heap.size w w' := by
  have hB : Hid (BoxL w w.heap.size [.int .i64 g.kd, .string g.nm, .string g.nw, .string g.c.nm, .int .i64 g.c.kd, .bool g.c.nd, .bool g.c.oc, .int .i64 g.c.k, .int .i64 g.c.n, .string g.c.s] (w.alloc (.cells #[.int .i64 g.kd, .string g.nm, .string g.nw, .string g.c.nm, .int .i64 g.c.kd, .bool g.c.nd, .bool g.c.oc, .int .i64 g.c.k, .int .i64 g.c.n, .string g.c.s] 42))) := BoxL.start _ _ _
  have hv : specChg g = (g.c.ok && (g.nm.toList == [] && g.nw.toList == [])) := by simp [specChg, beq_iff_eq.1 g1]
  rw [hv]
  clear hv
  go_enter Tryz.func18, Tryz.ntmps18
  go_wp2_with fail
  refine (spec_col g.c.nm g.c.kd g.c.nd g.c.oc g.c.k g.c.n g.c.s _ hf.2.2.1 hf.2.2.2).mono ?_
  rintro e w1 ⟨rfl, hb⟩
  have h1 : Hid (BoxL w w.heap.size [.int .i64 g.kd, .string g.nm, .string g.nw, .string g.c.nm, .int .i64 g.c.kd, .bool g.c.nd, .bool g.c.oc, .int .i64 g.c.k, .int .i64 g.c.n, .string g.c.s] w1) := hB.out.next hb
  clear hB hb
  have x1 := box10 h1.out.1
  cases hc : colOk g.c.nm g.c.kd g.c.oc g.c.k g.c.n g.c.s
  case false =>
    go_wp2_with fail
    go_ret
    exact ⟨ret_bool (by simp [ACol.ok, hc]), h1.out.2.2⟩
  have ho : Hid (g.c.ok = true) := hc
  clear hc
  cases he : g.nm.toList.isEmpty
  case false =>
    go_wp2_with fail
    go_ret
    exact ⟨ret_bool (by simp [he]), h1.out.2.2⟩
  go_wp2_with fail
  go_ret
  exact ⟨ret_bool (by simp [ho.out, he]), h1.out.2.2⟩

set_option maxRecDepth 100000 in
set_option maxHeartbeats 2000000 in
theorem spec_chg2 (g : AChg) (w : World) (hf : g.fit) (g2 : (g.kd == 2) = true) :
    Calls Tryz.prog 18 #[.agg #[.int .i64 g.kd, .string g.nm, .string g.nw, .string g.c.nm, .int .i64 g.c.kd, .bool g.c.nd, .bool g.c.oc, .int .i64 g.c.k, .int .i64 g.c.n, .string g.c.s]] w fun e w' => e = .returned (.bool (specChg g)) ∧ Below w.heap.size w w' := by
  have g1 : (g.kd == 1) = false := by simp [beq_iff_eq.1 g2]
  have hB : Hid (BoxL w w.heap.size [.int .i64 g.kd, .string g.nm, .string g.nw, .string g.c.nm, .int .i64 g.c.kd, .bool g.c.nd, .bool g.c.oc, .int .i64 g.c.k, .int .i64 g.c.n, .string g.c.s] (w.alloc (.cells #[.int .i64 g.kd, .string g.nm, .string g.nw, .string g.c.nm, .int .i64 g.c.kd, .bool g.c.nd, .bool g.c.oc, .int .i64 g.c.k, .int .i64 g.c.n, .string g.c.s] 42))) := BoxL.start _ _ _
  have hv : specChg g = (nameOk g.nm && (g.nw.toList == [] && eqC g.c (colK 0))) := by simp [specChg, beq_iff_eq.1 g2]
  rw [hv]
  clear hv
  have hq : ∀ w, (binOp .eql 40 (.agg #[.string g.c.nm, .int .i64 g.c.kd, .bool g.c.nd, .bool g.c.oc, .int .i64 g.c.k, .int .i64 g.c.n, .string g.c.s]) (.agg #[.string ⟨#[]⟩, .int .i64 0, .bool false, .bool false, .int .i64 0, .int .i64 0, .string ⟨#[]⟩])).run Tryz.prog w = .ok (.bool (eqC g.c (colK 0))) w := eql_col g.c (colK 0)
  go_enter Tryz.func18, Tryz.ntmps18
  go_wp2_with fail
  refine (l2_name g.nm _ hf.1).mono ?_
  rintro e wz ⟨rfl, hz⟩
  subst hz
  cases hn0 : nameOk g.nm
  case false =>
    go_wp2_with fail
    go_ret
    exact ⟨ret_bool (by simp [hn0]), hB.out.2.2⟩
  cases he : g.nw.toList.isEmpty
  case false =>
    go_wp2_with fail
    go_ret
    exact ⟨ret_bool (by simp [he]), hB.out.2.2⟩
  go_wp2_with fail
  go_ret
  exact ⟨ret_bool (by simp [hn0, he]), hB.out.2.2⟩

set_option maxRecDepth 100000 in
set_option maxHeartbeats 2000000 in
theorem spec_chg3 (g : AChg) (w : World) (hf : g.fit) (g3 : (g.kd == 3) = true) :
    Calls Tryz.prog 18 #[.agg #[.int .i64 g.kd, .string g.nm, .string g.nw, .string g.c.nm, .int .i64 g.c.kd, .bool g.c.nd, .bool g.c.oc, .int .i64 g.c.k, .int .i64 g.c.n, .string g.c.s]] w fun e w' => e = .returned (.bool (specChg g)) ∧ Below w.heap.size w w' := by
  have g1 : (g.kd == 1) = false := by simp [beq_iff_eq.1 g3]
  have g2 : (g.kd == 2) = false := by simp [beq_iff_eq.1 g3]
  have hB : Hid (BoxL w w.heap.size [.int .i64 g.kd, .string g.nm, .string g.nw, .string g.c.nm, .int .i64 g.c.kd, .bool g.c.nd, .bool g.c.oc, .int .i64 g.c.k, .int .i64 g.c.n, .string g.c.s] (w.alloc (.cells #[.int .i64 g.kd, .string g.nm, .string g.nw, .string g.c.nm, .int .i64 g.c.kd, .bool g.c.nd, .bool g.c.oc, .int .i64 g.c.k, .int .i64 g.c.n, .string g.c.s] 42))) := BoxL.start _ _ _
  have hv : specChg g = (nameOk g.nm && (nameOk g.nw && eqC g.c (colK 0))) := by simp [specChg, beq_iff_eq.1 g3]
  rw [hv]
  clear hv
  have hq : ∀ w, (binOp .eql 40 (.agg #[.string g.c.nm, .int .i64 g.c.kd, .bool g.c.nd, .bool g.c.oc, .int .i64 g.c.k, .int .i64 g.c.n, .string g.c.s]) (.agg #[.string ⟨#[]⟩, .int .i64 0, .bool false, .bool false, .int .i64 0, .int .i64 0, .string ⟨#[]⟩])).run Tryz.prog w = .ok (.bool (eqC g.c (colK 0))) w := eql_col g.c (colK 0)
  go_enter Tryz.func18, Tryz.ntmps18
  go_wp2_with fail
  refine (l2_name g.nm _ hf.1).mono ?_
  rintro e wz ⟨rfl, hz⟩
  subst hz
  cases hn0 : nameOk g.nm
  case false =>
    go_wp2_with fail
    go_ret
    exact ⟨ret_bool (by simp [hn0]), hB.out.2.2⟩
  go_wp2_with fail
  refine (l2_name g.nw _ hf.2.1).mono ?_
  rintro e wz ⟨rfl, hz⟩
  subst hz
  cases hn1 : nameOk g.nw
  case false =>
    go_wp2_with fail
    go_ret
    exact ⟨ret_bool (by simp [hn1]), hB.out.2.2⟩
  go_wp2_with fail
  go_ret
  exact ⟨ret_bool (by simp [hn0, hn1]), hB.out.2.2⟩

set_option maxRecDepth 100000 in
set_option maxHeartbeats 2000000 in
theorem spec_chg4 (g : AChg) (w : World) (hf : g.fit) (g4 : (g.kd == 4) = true) :
    Calls Tryz.prog 18 #[.agg #[.int .i64 g.kd, .string g.nm, .string g.nw, .string g.c.nm, .int .i64 g.c.kd, .bool g.c.nd, .bool g.c.oc, .int .i64 g.c.k, .int .i64 g.c.n, .string g.c.s]] w fun e w' => e = .returned (.bool (specChg g)) ∧ Below w.heap.size w w' := by
  have g1 : (g.kd == 1) = false := by simp [beq_iff_eq.1 g4]
  have g2 : (g.kd == 2) = false := by simp [beq_iff_eq.1 g4]
  have g3 : (g.kd == 3) = false := by simp [beq_iff_eq.1 g4]
  have hB : Hid (BoxL w w.heap.size [.int .i64 g.kd, .string g.nm, .string g.nw, .string g.c.nm, .int .i64 g.c.kd, .bool g.c.nd, .bool g.c.oc, .int .i64 g.c.k, .int .i64 g.c.n, .string g.c.s] (w.alloc (.cells #[.int .i64 g.kd, .string g.nm, .string g.nw, .string g.c.nm, .int .i64 g.c.kd, .bool g.c.nd, .bool g.c.oc, .int .i64 g.c.k, .int .i64 g.c.n, .string g.c.s] 42))) := BoxL.start _ _ _
  have hv : specChg g = (nameOk g.nm && (g.nw.toList == [] && (eqC g.c (colK 1) || eqC g.c (colK 2)))) := by simp [specChg, beq_iff_eq.1 g4]
  rw [hv]
  clear hv
  have hq : ∀ w, (binOp .eql 40 (.agg #[.string g.c.nm, .int .i64 g.c.kd, .bool g.c.nd, .bool g.c.oc, .int .i64 g.c.k, .int .i64 g.c.n, .string g.c.s]) (.agg #[.string ⟨#[]⟩, .int .i64 1, .bool false, .bool false, .int .i64 0, .int .i64 0, .string ⟨#[]⟩])).run Tryz.prog w = .ok (.bool (eqC g.c (colK 1))) w := eql_col g.c (colK 1)
  have hr : ∀ w, (binOp .eql 40 (.agg #[.string g.c.nm, .int .i64 g.c.kd, .bool g.c.nd, .bool g.c.oc, .int .i64 g.c.k, .int .i64 g.c.n, .string g.c.s]) (.agg #[.string ⟨#[]⟩, .int .i64 2, .bool false, .bool false, .int .i64 0, .int .i64 0, .string ⟨#[]⟩])).run Tryz.prog w = .ok (.bool (eqC g.c (colK 2))) w := eql_col g.c (colK 2)
  go_enter Tryz.func18, Tryz.ntmps18
  go_wp2_with fail
  refine (l2_name g.nm _ hf.1).mono ?_
  rintro e wz ⟨rfl, hz⟩
  subst hz
  cases hn0 : nameOk g.nm
  case false =>
    go_wp2_with fail
    go_ret
    exact ⟨ret_bool (by simp [hn0]), hB.out.2.2⟩
  cases he : g.nw.toList.isEmpty
  case false =>
    go_wp2_with fail
    go_ret
    exact ⟨ret_bool (by simp [he]), hB.out.2.2⟩
  cases hc : eqC g.c (colK 1)
  all_goals
    rw [hc] at hq
    go_wp2_with fail
    go_ret
    exact ⟨ret_bool (by simp [hn0, he, hc]), hB.out.2.2⟩

set_option maxRecDepth 100000 in
set_option maxHeartbeats 2000000 in
theorem spec_chgN (g : AChg) (w : World) (g1 : (g.kd == 1) = false) (g2 : (g.kd == 2) = false) (g3 : (g.kd == 3) = false) (g4 : (g.kd == 4) = false) :
    Calls Tryz.prog 18 #[.agg #[.int .i64 g.kd, .string g.nm, .string g.nw, .string g.c.nm, .int .i64 g.c.kd, .bool g.c.nd, .bool g.c.oc, .int .i64 g.c.k, .int .i64 g.c.n, .string g.c.s]] w fun e w' => e = .returned (.bool (specChg g)) ∧ Below w.heap.size w w' := by
  have hB : Hid (BoxL w w.heap.size [.int .i64 g.kd, .string g.nm, .string g.nw, .string g.c.nm, .int .i64 g.c.kd, .bool g.c.nd, .bool g.c.oc, .int .i64 g.c.k, .int .i64 g.c.n, .string g.c.s] (w.alloc (.cells #[.int .i64 g.kd, .string g.nm, .string g.nw, .string g.c.nm, .int .i64 g.c.kd, .bool g.c.nd, .bool g.c.oc, .int .i64 g.c.k, .int .i64 g.c.n, .string g.c.s] 42))) := BoxL.start _ _ _
  have hv : specChg g = false := by simp [specChg, beq_eq_false_iff_ne.1 g1, beq_eq_false_iff_ne.1 g2, beq_eq_false_iff_ne.1 g3, beq_eq_false_iff_ne.1 g4]
  rw [hv]
  go_enter Tryz.func18, Tryz.ntmps18
  go_wp2_with fail
  go_ret
  exact ⟨rfl, hB.out.2.2⟩

theorem spec_chg (g : AChg) (w : World) (hf : g.fit) :
    Calls Tryz.prog 18 #[.agg #[.int .i64 g.kd, .string g.nm, .string g.nw, .string g.c.nm, .int .i64 g.c.kd, .bool g.c.nd, .bool g.c.oc, .int .i64 g.c.k, .int .i64 g.c.n, .string g.c.s]] w fun e w' => e = .returned (.bool (specChg g)) ∧ Below w.heap.size w w' := by
  cases g1 : (g.kd == 1)
  case true => exact spec_chg1 g w hf g1
  cases g2 : (g.kd == 2)
  case true => exact spec_chg2 g w hf g2
  cases g3 : (g.kd == 3)
  case true => exact spec_chg3 g w hf g3
  cases g4 : (g.kd == 4)
  case true => exact spec_chg4 g w hf g4
  exact spec_chgN g w g1 g2 g3 g4

end Go.Proofs.YtacindondkcaiaaGreat
