/- The contract of spec.ActText at what is right, over the seat's translation. -/
import Derived.Test.YtpcfebekkgfpjaaGreatDoorG15
import Derived.Test.YtpcfebekkgfpjaaGreatDoorArP3
import Derived.Test.YtpcfebekkgfpjaaGreatDoorAcS5
namespace Go.Proofs.YtpcfebekkgfpjaaGreatDoor
open Go.RowKit

theorem vals_len {L : List ASet} (h : ∀ c ∈ L, c.ok = true) (h5 : L.length ≤ 5) : (valsB L).length ≤ 200 := by
  have key : ∀ M : List ASet, (∀ c ∈ M, c.ok = true) → (valsB M).length ≤ M.length * 21 := fun M => by
    induction M with
    | nil => intro _; exact Nat.le_refl _
    | cons c M ih =>
      intro hM
      have h1 := set_len (hM c (by simp))
      have h2 := ih (fun d hd => hM d (by simp [hd]))
      have e : valsB (c :: M) = 32 :: (setW c ++ valsB M) := rfl
      rw [e, List.length_cons, List.length_append, List.length_cons, Nat.succ_mul]
      omega
  have := key L h
  omega
theorem join_vals (v n : Bs) (L : List ASet) : joinB 32 (v :: n :: L.map setW) = v ++ 32 :: (n ++ valsB L) := by
  have key : ∀ (M : List ASet) (m : Bs), joinB 32 (m :: M.map setW) = m ++ valsB M := fun M => by
    induction M with
    | nil => intro m; simp [joinB, valsB]
    | cons c M ih =>
      intro m
      show m ++ 32 :: joinB 32 (setW c :: M.map setW) = _
      rw [ih]
      rfl
  show v ++ 32 :: joinB 32 (n :: L.map setW) = _
  rw [key]

set_option maxRecDepth 100000 in
set_option maxHeartbeats 4000000 in
theorem stext5 (x : AAct) (a0 a1 : Option Addr) (c0 c1 : Nat) (w : World) (hT : ActAt w a0 a1 x) (hf : x.fit) (hok : specAct x = true) (hd : implDeed x = true) (htab : Tb w) (hkd : (x.kd == 5) = true) :
    Calls Tryz.prog 8 #[.agg #[.int .i64 x.kd, .string x.nm, .int .i64 x.id, .slice a0 x.sets.length c0, .slice a1 x.cols.length c1, .int .i64 x.g.kd, .string x.g.nm, .string x.g.nw, .string x.g.c.nm, .int .i64 x.g.c.kd, .bool x.g.c.nd, .bool x.g.c.oc, .int .i64 x.g.c.k, .int .i64 x.g.c.n, .string x.g.c.s, .string x.l.fr, .string x.l.co, .string x.l.tt, .int .i64 x.l.hw]] w fun e w' => ∃ y, e = .returned (.string y) ∧ y.data.toList = actT x ∧ Below w.heap.size w w' := by
  have k1 : (x.kd == 1) = false := by simp [beq_iff_eq.1 hkd]
  have k2 : (x.kd == 2) = false := by simp [beq_iff_eq.1 hkd]
  have k3 : (x.kd == 3) = false := by simp [beq_iff_eq.1 hkd]
  have k4 : (x.kd == 4) = false := by simp [beq_iff_eq.1 hkd]
  have k5 : (x.kd == 5) = true := by simp [beq_iff_eq.1 hkd]
  have k6 : (x.kd == 6) = false := by simp [beq_iff_eq.1 hkd]
  have HS : Hid (DeedIn w x a0 c0 a1 c1 (w.alloc (.cells #[.int .i64 x.kd, .string x.nm, .int .i64 x.id, .slice a0 x.sets.length c0, .slice a1 x.cols.length c1, .int .i64 x.g.kd, .string x.g.nm, .string x.g.nw, .string x.g.c.nm, .int .i64 x.g.c.kd, .bool x.g.c.nd, .bool x.g.c.oc, .int .i64 x.g.c.k, .int .i64 x.g.c.n, .string x.g.c.s, .string x.l.fr, .string x.l.co, .string x.l.tt, .int .i64 x.l.hw] 34))) := DeedIn.start x a0 a1 c0 c1 w hT
  have hR : (w.alloc (.cells #[.int .i64 x.kd, .string x.nm, .int .i64 x.id, .slice a0 x.sets.length c0, .slice a1 x.cols.length c1, .int .i64 x.g.kd, .string x.g.nm, .string x.g.nw, .string x.g.c.nm, .int .i64 x.g.c.kd, .bool x.g.c.nd, .bool x.g.c.oc, .int .i64 x.g.c.k, .int .i64 x.g.c.n, .string x.g.c.s, .string x.l.fr, .string x.l.co, .string x.l.tt, .int .i64 x.l.hw] 34)).rangeAt w.heap.size 0 [.int .i64 x.kd, .string x.nm, .int .i64 x.id, .slice a0 x.sets.length c0, .slice a1 x.cols.length c1, .int .i64 x.g.kd, .string x.g.nm, .string x.g.nw, .string x.g.c.nm, .int .i64 x.g.c.kd, .bool x.g.c.nd, .bool x.g.c.oc, .int .i64 x.g.c.k, .int .i64 x.g.c.n, .string x.g.c.s, .string x.l.fr, .string x.l.co, .string x.l.tt, .int .i64 x.l.hw] := HS.out.1.1
  have HF : Hid (x.fit ∧ Tb w ∧ implDeed x = true) := ⟨hf, htab, hd⟩
  have HOK : Hid (specAct x = true) := hok
  clear hT hf hok hd htab
  go_enter Tryz.func8, Tryz.ntmps8
  go_wp2_with (refine ld_act rfl _ rfl _ rfl _ hR rfl ?_)
  refine (spec_act x a0 a1 c0 c1 _ HS.out.2 HF.out.1).mono ?_
  rintro e w1 ⟨rfl, hb⟩
  rw [HOK.out]
  have HS1 : Hid (DeedIn w x a0 c0 a1 c1 w1) := HS.out.next hb
  clear hb HS hR
  have y0 := HS1.out.1.1 0 _ rfl
  have hI := HF.out.2.2
  unfold implDeed at hI
  simp only [beq_iff_eq.1 hkd, Int.reduceEq, if_false, if_true, Bool.and_eq_true] at hI
  have hn := name_le hI.1
  have hi := id_le hI.2
  obtain ⟨t, ht, hts⟩ : ∃ t : ByteArray, t = ⟨(Lib.itoa x.id).toArray⟩ ∧ t.size ≤ 3 := ⟨_, rfl, by have := itoa_len hi.1 hi.2; show (Lib.itoa x.id).toArray.size ≤ 3; simpa using this⟩
  have HT : Hid (t = ⟨(Lib.itoa x.id).toArray⟩ ∧ 0 ≤ x.id ∧ x.id ≤ 60) := ⟨ht, hi.1, hi.2⟩
  clear ht
  have inh : Nonempty (Over (DeedIn w x a0 c0 a1 c1)) := ⟨⟨_, HS1.out⟩⟩
  have g0 : ∀ p : Over (DeedIn w x a0 c0 a1 c1), p.W.cell? ⟨w.heap.size, 1, none⟩ = some (.string x.nm) ∧ p.W.cell? ⟨w.heap.size, 2, none⟩ = some (.int .i64 x.id) := fun p => ⟨p.ok.1.1 1 _ rfl, p.ok.1.1 2 _ rfl⟩
  have hcon : ∀ p : Over (DeedIn w x a0 c0 a1 c1), Calls Tryz.prog 24 #[.int .i64 x.id] p.W fun e w' => e = .returned (.string t) ∧ Below p.W.heap.size p.W w' := fun p => by rw [HT.out.1]; exact dec_any x.id p.W (by have := HT.out.2; omega) (by have := HT.out.2; omega)
  clear hI
  go_wp2_with fail
  refine wp_region_over (S := DeedIn w x a0 c0 a1 c1) (by kernel_rfl) (by kernel_rfl) (HS1.out.next (Below.refl _ _).drew) ?_
  repeat (go_big_quiet_step (exact over_call (hcon _) (fun _ h => DeedIn.next (Over.ok _) h)))
  refine wpQuiet_nil ?_
  rintro wq ⟨pp, hp⟩
  have hZ := pp.ok
  rw [← hp] at hZ
  have HZ : Hid (Below w.heap.size w wq) := hZ.1.2.2
  clear hp pp g0 inh hZ hcon
  go_wp2_with fail
  go_ret
  refine ⟨_, rfl, ?_, HZ.out⟩
  unfold actT actW
  rw [if_neg (by simp [beq_iff_eq.1 hkd]), if_neg (by simp [beq_iff_eq.1 hkd]), if_neg (by simp [beq_iff_eq.1 hkd]), if_neg (by simp [beq_iff_eq.1 hkd]), if_pos (beq_iff_eq.1 hkd)]
  simp [joinB, HT.out.1]
set_option maxRecDepth 100000 in
set_option maxHeartbeats 4000000 in
theorem stext3 (x : AAct) (a0 a1 : Option Addr) (c0 c1 : Nat) (w : World) (hT : ActAt w a0 a1 x) (hf : x.fit) (hok : specAct x = true) (hd : implDeed x = true) (htab : Tb w) (hkd : (x.kd == 3) = true) :
    Calls Tryz.prog 8 #[.agg #[.int .i64 x.kd, .string x.nm, .int .i64 x.id, .slice a0 x.sets.length c0, .slice a1 x.cols.length c1, .int .i64 x.g.kd, .string x.g.nm, .string x.g.nw, .string x.g.c.nm, .int .i64 x.g.c.kd, .bool x.g.c.nd, .bool x.g.c.oc, .int .i64 x.g.c.k, .int .i64 x.g.c.n, .string x.g.c.s, .string x.l.fr, .string x.l.co, .string x.l.tt, .int .i64 x.l.hw]] w fun e w' => ∃ y, e = .returned (.string y) ∧ y.data.toList = actT x ∧ Below w.heap.size w w' := by
  have k1 : (x.kd == 1) = false := by simp [beq_iff_eq.1 hkd]
  have k2 : (x.kd == 2) = false := by simp [beq_iff_eq.1 hkd]
  have k3 : (x.kd == 3) = true := by simp [beq_iff_eq.1 hkd]
  have k4 : (x.kd == 4) = false := by simp [beq_iff_eq.1 hkd]
  have k5 : (x.kd == 5) = false := by simp [beq_iff_eq.1 hkd]
  have k6 : (x.kd == 6) = false := by simp [beq_iff_eq.1 hkd]
  have HS : Hid (DeedIn w x a0 c0 a1 c1 (w.alloc (.cells #[.int .i64 x.kd, .string x.nm, .int .i64 x.id, .slice a0 x.sets.length c0, .slice a1 x.cols.length c1, .int .i64 x.g.kd, .string x.g.nm, .string x.g.nw, .string x.g.c.nm, .int .i64 x.g.c.kd, .bool x.g.c.nd, .bool x.g.c.oc, .int .i64 x.g.c.k, .int .i64 x.g.c.n, .string x.g.c.s, .string x.l.fr, .string x.l.co, .string x.l.tt, .int .i64 x.l.hw] 34))) := DeedIn.start x a0 a1 c0 c1 w hT
  have hR : (w.alloc (.cells #[.int .i64 x.kd, .string x.nm, .int .i64 x.id, .slice a0 x.sets.length c0, .slice a1 x.cols.length c1, .int .i64 x.g.kd, .string x.g.nm, .string x.g.nw, .string x.g.c.nm, .int .i64 x.g.c.kd, .bool x.g.c.nd, .bool x.g.c.oc, .int .i64 x.g.c.k, .int .i64 x.g.c.n, .string x.g.c.s, .string x.l.fr, .string x.l.co, .string x.l.tt, .int .i64 x.l.hw] 34)).rangeAt w.heap.size 0 [.int .i64 x.kd, .string x.nm, .int .i64 x.id, .slice a0 x.sets.length c0, .slice a1 x.cols.length c1, .int .i64 x.g.kd, .string x.g.nm, .string x.g.nw, .string x.g.c.nm, .int .i64 x.g.c.kd, .bool x.g.c.nd, .bool x.g.c.oc, .int .i64 x.g.c.k, .int .i64 x.g.c.n, .string x.g.c.s, .string x.l.fr, .string x.l.co, .string x.l.tt, .int .i64 x.l.hw] := HS.out.1.1
  have HF : Hid (x.fit ∧ Tb w ∧ implDeed x = true) := ⟨hf, htab, hd⟩
  have HOK : Hid (specAct x = true) := hok
  clear hT hf hok hd htab
  go_enter Tryz.func8, Tryz.ntmps8
  go_wp2_with (refine ld_act rfl _ rfl _ rfl _ hR rfl ?_)
  refine (spec_act x a0 a1 c0 c1 _ HS.out.2 HF.out.1).mono ?_
  rintro e w1 ⟨rfl, hb⟩
  rw [HOK.out]
  have HS1 : Hid (DeedIn w x a0 c0 a1 c1 w1) := HS.out.next hb
  clear hb HS hR
  have y0 := HS1.out.1.1 0 _ rfl
  have hI := HF.out.2.2
  unfold implDeed at hI
  simp only [beq_iff_eq.1 hkd, Int.reduceEq, if_false, if_true, Bool.and_eq_true, decide_eq_true_eq, List.all_eq_true] at hI
  have hn := name_le hI.1
  obtain ⟨t, ht, hts⟩ : ∃ t : ByteArray, t.data.toList = valsB x.sets ∧ t.size ≤ 200 := ⟨⟨(valsB x.sets).toArray⟩, by simp, by have := vals_len hI.2.2 hI.2.1; show (valsB x.sets).toArray.size ≤ 200; simpa using this⟩
  have HT : Hid (t.data.toList = valsB x.sets ∧ (∀ c ∈ x.sets, c.ok = true) ∧ x.sets.length ≤ 5) := ⟨ht, hI.2.2, hI.2.1⟩
  clear ht
  have inh : Nonempty (Over (DeedIn w x a0 c0 a1 c1)) := ⟨⟨_, HS1.out⟩⟩
  have g0 : ∀ p : Over (DeedIn w x a0 c0 a1 c1), p.W.cell? ⟨w.heap.size, 1, none⟩ = some (.string x.nm) ∧ p.W.cell? ⟨w.heap.size, 3, none⟩ = some (.slice a0 x.sets.length c0) := fun p => ⟨p.ok.1.1 1 _ rfl, p.ok.1.1 3 _ rfl⟩
  have hcon : ∀ p : Over (DeedIn w x a0 c0 a1 c1), Calls Tryz.prog 23 #[.slice a0 x.sets.length c0] p.W fun e w' => e = .returned (.string t) ∧ Below p.W.heap.size p.W w' := fun p => (spec_vals a0 c0 x.sets p.W p.ok.2.1 HT.out.2.1 HT.out.2.2).mono (by rintro e w' ⟨y, rfl, hy, hb⟩; exact ⟨by rw [bytes_same (hy.trans HT.out.1.symm)], hb⟩)
  clear hI
  go_wp2_with fail
  refine wp_region_over (S := DeedIn w x a0 c0 a1 c1) (by kernel_rfl) (by kernel_rfl) (HS1.out.next (Below.refl _ _).drew) ?_
  repeat (go_big_quiet_step (exact over_call (hcon _) (fun _ h => DeedIn.next (Over.ok _) h)))
  refine wpQuiet_nil ?_
  rintro wq ⟨pp, hp⟩
  have hZ := pp.ok
  rw [← hp] at hZ
  have HZ : Hid (Below w.heap.size w wq) := hZ.1.2.2
  clear hp pp g0 inh hZ hcon
  go_wp2_with fail
  go_ret
  refine ⟨_, rfl, ?_, HZ.out⟩
  unfold actT actW
  rw [if_neg (by simp [beq_iff_eq.1 hkd]), if_neg (by simp [beq_iff_eq.1 hkd]), if_pos (beq_iff_eq.1 hkd)]
  rw [join_vals]
  simp [HT.out.1]
set_option maxRecDepth 100000 in
set_option maxHeartbeats 4000000 in
theorem stext4 (x : AAct) (a0 a1 : Option Addr) (c0 c1 : Nat) (w : World) (hT : ActAt w a0 a1 x) (hf : x.fit) (hok : specAct x = true) (hd : implDeed x = true) (htab : Tb w) (hkd : (x.kd == 4) = true) :
    Calls Tryz.prog 8 #[.agg #[.int .i64 x.kd, .string x.nm, .int .i64 x.id, .slice a0 x.sets.length c0, .slice a1 x.cols.length c1, .int .i64 x.g.kd, .string x.g.nm, .string x.g.nw, .string x.g.c.nm, .int .i64 x.g.c.kd, .bool x.g.c.nd, .bool x.g.c.oc, .int .i64 x.g.c.k, .int .i64 x.g.c.n, .string x.g.c.s, .string x.l.fr, .string x.l.co, .string x.l.tt, .int .i64 x.l.hw]] w fun e w' => ∃ y, e = .returned (.string y) ∧ y.data.toList = actT x ∧ Below w.heap.size w w' := by
  have k1 : (x.kd == 1) = false := by simp [beq_iff_eq.1 hkd]
  have k2 : (x.kd == 2) = false := by simp [beq_iff_eq.1 hkd]
  have k3 : (x.kd == 3) = false := by simp [beq_iff_eq.1 hkd]
  have k4 : (x.kd == 4) = true := by simp [beq_iff_eq.1 hkd]
  have k5 : (x.kd == 5) = false := by simp [beq_iff_eq.1 hkd]
  have k6 : (x.kd == 6) = false := by simp [beq_iff_eq.1 hkd]
  have HS : Hid (DeedIn w x a0 c0 a1 c1 (w.alloc (.cells #[.int .i64 x.kd, .string x.nm, .int .i64 x.id, .slice a0 x.sets.length c0, .slice a1 x.cols.length c1, .int .i64 x.g.kd, .string x.g.nm, .string x.g.nw, .string x.g.c.nm, .int .i64 x.g.c.kd, .bool x.g.c.nd, .bool x.g.c.oc, .int .i64 x.g.c.k, .int .i64 x.g.c.n, .string x.g.c.s, .string x.l.fr, .string x.l.co, .string x.l.tt, .int .i64 x.l.hw] 34))) := DeedIn.start x a0 a1 c0 c1 w hT
  have hR : (w.alloc (.cells #[.int .i64 x.kd, .string x.nm, .int .i64 x.id, .slice a0 x.sets.length c0, .slice a1 x.cols.length c1, .int .i64 x.g.kd, .string x.g.nm, .string x.g.nw, .string x.g.c.nm, .int .i64 x.g.c.kd, .bool x.g.c.nd, .bool x.g.c.oc, .int .i64 x.g.c.k, .int .i64 x.g.c.n, .string x.g.c.s, .string x.l.fr, .string x.l.co, .string x.l.tt, .int .i64 x.l.hw] 34)).rangeAt w.heap.size 0 [.int .i64 x.kd, .string x.nm, .int .i64 x.id, .slice a0 x.sets.length c0, .slice a1 x.cols.length c1, .int .i64 x.g.kd, .string x.g.nm, .string x.g.nw, .string x.g.c.nm, .int .i64 x.g.c.kd, .bool x.g.c.nd, .bool x.g.c.oc, .int .i64 x.g.c.k, .int .i64 x.g.c.n, .string x.g.c.s, .string x.l.fr, .string x.l.co, .string x.l.tt, .int .i64 x.l.hw] := HS.out.1.1
  have HF : Hid (x.fit ∧ Tb w ∧ implDeed x = true) := ⟨hf, htab, hd⟩
  have HOK : Hid (specAct x = true) := hok
  clear hT hf hok hd htab
  go_enter Tryz.func8, Tryz.ntmps8
  go_wp2_with (refine ld_act rfl _ rfl _ rfl _ hR rfl ?_)
  refine (spec_act x a0 a1 c0 c1 _ HS.out.2 HF.out.1).mono ?_
  rintro e w1 ⟨rfl, hb⟩
  rw [HOK.out]
  have HS1 : Hid (DeedIn w x a0 c0 a1 c1 w1) := HS.out.next hb
  clear hb HS hR
  have y0 := HS1.out.1.1 0 _ rfl
  have hI := HF.out.2.2
  unfold implDeed at hI
  simp only [beq_iff_eq.1 hkd, Int.reduceEq, if_false, if_true, Bool.and_eq_true, decide_eq_true_eq, List.all_eq_true] at hI
  have hn := name_le hI.1
  have hi := id_le hI.2.1
  obtain ⟨d, hd, hds⟩ : ∃ t : ByteArray, t = ⟨(Lib.itoa x.id).toArray⟩ ∧ t.size ≤ 3 := ⟨_, rfl, by have := itoa_len hi.1 hi.2; show (Lib.itoa x.id).toArray.size ≤ 3; simpa using this⟩
  have HD : Hid (d = ⟨(Lib.itoa x.id).toArray⟩ ∧ 0 ≤ x.id ∧ x.id ≤ 60) := ⟨hd, hi.1, hi.2⟩
  obtain ⟨t, ht, hts⟩ : ∃ t : ByteArray, t.data.toList = valsB x.sets ∧ t.size ≤ 200 := ⟨⟨(valsB x.sets).toArray⟩, by simp, by have := vals_len hI.2.2.2 hI.2.2.1; show (valsB x.sets).toArray.size ≤ 200; simpa using this⟩
  have HT : Hid (t.data.toList = valsB x.sets ∧ (∀ c ∈ x.sets, c.ok = true) ∧ x.sets.length ≤ 5) := ⟨ht, hI.2.2.2, hI.2.2.1⟩
  clear ht hd hi
  have inh : Nonempty (Over (DeedIn w x a0 c0 a1 c1)) := ⟨⟨_, HS1.out⟩⟩
  have g0 : ∀ p : Over (DeedIn w x a0 c0 a1 c1), p.W.cell? ⟨w.heap.size, 1, none⟩ = some (.string x.nm) ∧ p.W.cell? ⟨w.heap.size, 2, none⟩ = some (.int .i64 x.id) ∧ p.W.cell? ⟨w.heap.size, 3, none⟩ = some (.slice a0 x.sets.length c0) := fun p => ⟨p.ok.1.1 1 _ rfl, p.ok.1.1 2 _ rfl, p.ok.1.1 3 _ rfl⟩
  have hcon0 : ∀ p : Over (DeedIn w x a0 c0 a1 c1), Calls Tryz.prog 24 #[.int .i64 x.id] p.W fun e w' => e = .returned (.string d) ∧ Below p.W.heap.size p.W w' := fun p => by rw [HD.out.1]; exact dec_any x.id p.W (by have := HD.out.2; omega) (by have := HD.out.2; omega)
  have hcon1 : ∀ p : Over (DeedIn w x a0 c0 a1 c1), Calls Tryz.prog 23 #[.slice a0 x.sets.length c0] p.W fun e w' => e = .returned (.string t) ∧ Below p.W.heap.size p.W w' := fun p => (spec_vals a0 c0 x.sets p.W p.ok.2.1 HT.out.2.1 HT.out.2.2).mono (by rintro e w' ⟨y, rfl, hy, hb⟩; exact ⟨by rw [bytes_same (hy.trans HT.out.1.symm)], hb⟩)
  clear hI
  go_wp2_with fail
  refine wp_region_over (S := DeedIn w x a0 c0 a1 c1) (by kernel_rfl) (by kernel_rfl) (HS1.out.next (Below.refl _ _).drew) ?_
  repeat (go_big_quiet_step (first | exact over_call (hcon0 _) (fun _ h => DeedIn.next (Over.ok _) h) | exact over_call (hcon1 _) (fun _ h => DeedIn.next (Over.ok _) h)))
  refine wpQuiet_nil ?_
  rintro wq ⟨pp, hp⟩
  have hZ := pp.ok
  rw [← hp] at hZ
  have HZ : Hid (Below w.heap.size w wq) := hZ.1.2.2
  clear hp pp g0 inh hZ hcon0 hcon1
  go_wp2_with fail
  go_ret
  refine ⟨_, rfl, ?_, HZ.out⟩
  unfold actT actW
  rw [if_neg (by simp [beq_iff_eq.1 hkd]), if_neg (by simp [beq_iff_eq.1 hkd]), if_neg (by simp [beq_iff_eq.1 hkd]), if_pos (beq_iff_eq.1 hkd)]
  show _ = [115, 101, 116] ++ 32 :: joinB 32 (x.nm.data.toList :: Lib.itoa x.id :: x.sets.map setW)
  rw [join_vals]
  simp [HT.out.1, HD.out.1]
set_option maxRecDepth 100000 in
set_option maxHeartbeats 4000000 in
theorem stext2 (x : AAct) (a0 a1 : Option Addr) (c0 c1 : Nat) (w : World) (hT : ActAt w a0 a1 x) (hf : x.fit) (hok : specAct x = true) (hd : implDeed x = true) (htab : Tb w) (hkd : (x.kd == 2) = true) :
    Calls Tryz.prog 8 #[.agg #[.int .i64 x.kd, .string x.nm, .int .i64 x.id, .slice a0 x.sets.length c0, .slice a1 x.cols.length c1, .int .i64 x.g.kd, .string x.g.nm, .string x.g.nw, .string x.g.c.nm, .int .i64 x.g.c.kd, .bool x.g.c.nd, .bool x.g.c.oc, .int .i64 x.g.c.k, .int .i64 x.g.c.n, .string x.g.c.s, .string x.l.fr, .string x.l.co, .string x.l.tt, .int .i64 x.l.hw]] w fun e w' => ∃ y, e = .returned (.string y) ∧ y.data.toList = actT x ∧ Below w.heap.size w w' := by
  have k1 : (x.kd == 1) = false := by simp [beq_iff_eq.1 hkd]
  have k2 : (x.kd == 2) = true := by simp [beq_iff_eq.1 hkd]
  have k3 : (x.kd == 3) = false := by simp [beq_iff_eq.1 hkd]
  have k4 : (x.kd == 4) = false := by simp [beq_iff_eq.1 hkd]
  have k5 : (x.kd == 5) = false := by simp [beq_iff_eq.1 hkd]
  have k6 : (x.kd == 6) = false := by simp [beq_iff_eq.1 hkd]
  have HS : Hid (DeedIn w x a0 c0 a1 c1 (w.alloc (.cells #[.int .i64 x.kd, .string x.nm, .int .i64 x.id, .slice a0 x.sets.length c0, .slice a1 x.cols.length c1, .int .i64 x.g.kd, .string x.g.nm, .string x.g.nw, .string x.g.c.nm, .int .i64 x.g.c.kd, .bool x.g.c.nd, .bool x.g.c.oc, .int .i64 x.g.c.k, .int .i64 x.g.c.n, .string x.g.c.s, .string x.l.fr, .string x.l.co, .string x.l.tt, .int .i64 x.l.hw] 34))) := DeedIn.start x a0 a1 c0 c1 w hT
  have hR : (w.alloc (.cells #[.int .i64 x.kd, .string x.nm, .int .i64 x.id, .slice a0 x.sets.length c0, .slice a1 x.cols.length c1, .int .i64 x.g.kd, .string x.g.nm, .string x.g.nw, .string x.g.c.nm, .int .i64 x.g.c.kd, .bool x.g.c.nd, .bool x.g.c.oc, .int .i64 x.g.c.k, .int .i64 x.g.c.n, .string x.g.c.s, .string x.l.fr, .string x.l.co, .string x.l.tt, .int .i64 x.l.hw] 34)).rangeAt w.heap.size 0 [.int .i64 x.kd, .string x.nm, .int .i64 x.id, .slice a0 x.sets.length c0, .slice a1 x.cols.length c1, .int .i64 x.g.kd, .string x.g.nm, .string x.g.nw, .string x.g.c.nm, .int .i64 x.g.c.kd, .bool x.g.c.nd, .bool x.g.c.oc, .int .i64 x.g.c.k, .int .i64 x.g.c.n, .string x.g.c.s, .string x.l.fr, .string x.l.co, .string x.l.tt, .int .i64 x.l.hw] := HS.out.1.1
  have HF : Hid (x.fit ∧ Tb w ∧ implDeed x = true) := ⟨hf, htab, hd⟩
  have HOK : Hid (specAct x = true) := hok
  clear hT hf hok hd htab
  go_enter Tryz.func8, Tryz.ntmps8
  go_wp2_with (refine ld_act rfl _ rfl _ rfl _ hR rfl ?_)
  refine (spec_act x a0 a1 c0 c1 _ HS.out.2 HF.out.1).mono ?_
  rintro e w1 ⟨rfl, hb⟩
  rw [HOK.out]
  have HS1 : Hid (DeedIn w x a0 c0 a1 c1 w1) := HS.out.next hb
  clear hb HS hR
  have y0 := HS1.out.1.1 0 _ rfl
  have hI := HF.out.2.2
  unfold implDeed at hI
  simp only [beq_iff_eq.1 hkd, Int.reduceEq, if_false, if_true, Bool.and_eq_true] at hI
  have hn1 := name_le hI.1
  have hn2 := name_le hI.2.1
  have hn3 := name_le hI.2.2.1
  have hhs : (howS x.l.hw).size ≤ 20 := by have := how_len x.l.hw; unfold howB at this; simpa using this
  have HW : Hid (1 ≤ x.l.hw ∧ x.l.hw ≤ 3) := by
    have h := hI.2.2.2
    simp only [howOk, Bool.or_eq_true, beq_iff_eq] at h
    show 1 ≤ x.l.hw ∧ x.l.hw ≤ 3
    omega
  obtain ⟨t, ht⟩ : ∃ t, howS x.l.hw = t := ⟨_, rfl⟩
  have HT : Hid (howS x.l.hw = t) := ht
  rw [ht] at hhs
  clear ht
  have inh : Nonempty (Over (DeedIn w x a0 c0 a1 c1)) := ⟨⟨_, HS1.out⟩⟩
  have g0 : ∀ p : Over (DeedIn w x a0 c0 a1 c1), p.W.cell? ⟨w.heap.size, 15, none⟩ = some (.string x.l.fr) ∧ p.W.cell? ⟨w.heap.size, 16, none⟩ = some (.string x.l.co) ∧ p.W.cell? ⟨w.heap.size, 17, none⟩ = some (.string x.l.tt) ∧ p.W.cell? ⟨w.heap.size, 18, none⟩ = some (.int .i64 x.l.hw) := fun p => ⟨p.ok.1.1 15 _ rfl, p.ok.1.1 16 _ rfl, p.ok.1.1 17 _ rfl, p.ok.1.1 18 _ rfl⟩
  have hcon0 : ∀ p : Over (DeedIn w x a0 c0 a1 c1), Calls Tryz.prog 22 #[.int .i64 x.l.hw] p.W fun e w' => e = .returned (.string t) ∧ Below p.W.heap.size p.W w' := fun p => by rw [← HT.out]; exact spec_how x.l.hw p.W HW.out
  clear hI
  go_wp2_with fail
  refine wp_region_over (S := DeedIn w x a0 c0 a1 c1) (by kernel_rfl) (by kernel_rfl) (HS1.out.next (Below.refl _ _).drew) ?_
  repeat (go_big_quiet_step (first | exact over_call (hcon0 _) (fun _ h => DeedIn.next (Over.ok _) h)))
  refine wpQuiet_nil ?_
  rintro wq ⟨pp, hp⟩
  have hZ := pp.ok
  rw [← hp] at hZ
  have HZ : Hid (Below w.heap.size w wq) := hZ.1.2.2
  clear hp pp g0 inh hZ hcon0
  go_wp2_with fail
  go_ret
  refine ⟨_, rfl, ?_, HZ.out⟩
  unfold actT actW
  rw [if_neg (by simp [beq_iff_eq.1 hkd]), if_pos (beq_iff_eq.1 hkd)]
  simp [joinB, howB, HT.out]

end Go.Proofs.YtpcfebekkgfpjaaGreatDoor
