/- The contract of impl.each at words that are read as values told, over the seat's translation. -/
import Derived.Test.YtpcfebekkgfpjaaGreatDoorG16
import Derived.Test.YtpcfebekkgfpjaaGreatDoorArC1
namespace Go.Proofs.YtpcfebekkgfpjaaGreatDoor
open Go.RowKit

/-- The texts ws lie in W from where the slice begins. -/
def StrsAt (W : World) (a : Option Addr) (ws : List ByteArray) : Prop :=
  ws = [] ∨ ∃ b o, a = some ⟨b, o, none⟩ ∧ b < W.heap.size ∧ ∀ i x, ws[i]? = some x → W.cell? ⟨b, o + i, none⟩ = some (.string x)
theorem StrsAt.keep {W W' : World} {a : Option Addr} {ws : List ByteArray} (h : StrsAt W a ws) (hb : Below W.heap.size W W') : StrsAt W' a ws := by
  rcases h with h | ⟨b, o, ha, hlt, hr⟩
  · exact Or.inl h
  · refine Or.inr ⟨b, o, ha, Nat.lt_of_lt_of_le hlt hb.size, fun i x hx => ?_⟩
    rw [(bcell hb).1 _ _ hlt]
    exact hr i x hx
theorem StrsAt.at {W : World} {a : Option Addr} {ws : List ByteArray} (h : StrsAt W a ws) {k : Nat} (hk : k < ws.length) : ∃ b o, a = some ⟨b, o, none⟩ ∧ b < W.heap.size ∧ W.cell? ⟨b, o + k, none⟩ = some (.string ws[k]) := by
  rcases h with h | ⟨b, o, ha, hlt, hr⟩
  · subst h; simp at hk
  · exact ⟨b, o, ha, hlt, hr k _ (List.getElem?_eq_getElem hk)⟩

/-- Values told of the call's own, and W lies over w. -/
def OwnT (w : World) (v : Value) (L : List ASet) (W : World) : Prop := W.ownsRow w.heap.size 102 4 v L.length (L.flatMap ASet.cells) ∧ Below w.heap.size w W
theorem OwnT.next {w : World} {v : Value} {L : List ASet} {W W' : World} (h : OwnT w v L W) (hb : Below W.heap.size W W') : OwnT w v L W' := ⟨own_keep h.1 hb, h.2.trans (hb.mono h.2.size)⟩
theorem OwnT.nil (w : World) : OwnT w (.slice none 0 0) [] w := ⟨World.ownsRow_nil w _ _ _, Below.refl _ _⟩
theorem Tryz.infoT : ∃ i, Tryz.prog.info? 102 = some i ∧ i.zero = some (.agg #[.string ⟨#[]⟩, .int .i64 0, .int .i64 0, .string ⟨#[]⟩]) ∧ i.size = 4 ∧ i.bytes ≤ 128 := by
  have h : (Tryz.prog.info? 102).map (fun i => (i.zero, i.size, decide (i.bytes ≤ 128))) = some (some (.agg #[.string ⟨#[]⟩, .int .i64 0, .int .i64 0, .string ⟨#[]⟩]), 4, true) := by kernel_rfl
  obtain ⟨i, hi, he⟩ := Option.map_eq_some_iff.1 h
  simp only [Prod.mk.injEq, decide_eq_true_eq] at he
  exact ⟨i, hi, he.1, he.2.1, he.2.2⟩
theorem new_row (w : World) (cs : List Value) (t : TypeId) : ∀ (j : Nat) u, cs[j]? = some u → (w.alloc (.cells cs.toArray t)).cell? ((⟨w.heap.size, 0, none⟩ : Addr).add j) = some u := fun j u hu => by
  rw [Addr.add_mid]
  exact range_box w cs t j u hu

set_option maxRecDepth 100000 in
set_option maxHeartbeats 2000000 in
theorem each_read_sets (m : Int) (a : Option Addr) (cap : Nat) (ws : List ByteArray) (w : World) (ha : StrsAt w a ws) (hs : ∀ x ∈ ws, x.size ≤ 1048576) (hm : ws.length ≤ 2000000) (htab : Tb w) (hM : Mx m w) :
    Calls Tryz.prog 55 #[.slice a ws.length cap, .func (.func 56) #[] #[]] w fun e w' => ∃ v, e = .returned v ∧ OwnT w v (ws.map fun x => setR x.data.toList) w' := by
  have HT : Hid (Tb w ∧ Mx m w) := ⟨htab, hM⟩
  clear htab hM
  go_enter Tryz.func55, Tryz.ntmps55
  go_wp2_with fail
  go_loopw [5, 10] (fun v0 i wr => ∃ (k : Nat) (v : Value), v = v0 ∧ k ≤ ws.length ∧ i = .int .i64 k ∧ Hid (OwnT w v ((ws.take k).map fun x => setR x.data.toList) wr)) (fun _ i _ => ws.length - (intOf i).toNat)
  case atStart => exact ⟨0, _, rfl, Nat.zero_le _, rfl, OwnT.nil w⟩
  case round =>
    obtain ⟨k, v, rfl, hk, rfl, hH⟩ := hrel
    by_cases hlt : k < ws.length
    · obtain ⟨b, o, hab, hbl, hT⟩ := (ha.keep hH.out.2).at hlt
      have hc := List.getElem?_eq_getElem hlt
      have hsz := hs _ (List.getElem_mem hlt)
      revert hT hc hsz
      generalize ws[k] = x
      intro hT hc hsz
      have hix : ∀ wx, (Instr.indexAt 50 (.slice a ws.length cap) (.int .i64 k)).run Tryz.prog wx = .ok (.pointer (some ⟨b, o + k, none⟩)) wx := fun wx => by
        have h := run_ixk 1 _ _ b o _ cap k wx hlt Tryz.underlying50 (Tryz.sizeOf9 wx)
        rw [Nat.mul_one] at h
        rw [hab]; exact h
      have hC : Hid (ws[k]? = some x ∧ x.size ≤ 1048576) := ⟨hc, hsz⟩
      clear hab ha hbl hc hsz hs
      go_wp2_with fail
      refine (read_set m x _ hC.out.2 (tb_next HT.out.1 hH.out.2) (HT.out.2.next hH.out.2)).mono ?_
      rintro e w2 ⟨rfl, hq⟩
      have H2 : Hid (OwnT w v ((ws.take k).map fun x => setR x.data.toList) w2) := hH.out.next hq
      have hlen : ((ws.take k).map fun x => setR x.data.toList).length = k := by simp; omega
      have hx : (ws.take (k + 1)).map (fun x => setR x.data.toList) = (ws.take k).map (fun x => setR x.data.toList) ++ [setR x.data.toList] := by
        obtain ⟨hk2, rfl⟩ := List.getElem?_eq_some_iff.1 hC.out.1
        rw [List.take_succ_eq_append_getElem hk2, List.map_append, List.map_singleton]
      have HX : Hid ((ws.take (k + 1)).map (fun x => setR x.data.toList) = (ws.take k).map (fun x => setR x.data.toList) ++ [setR x.data.toList]) := hx
      clear hq hH hx hT
      generalize (ws.take k).map (fun x => setR x.data.toList) = M at *
      generalize setR x.data.toList = c at *
      have B3 : Hid (Below w2.heap.size w2 (w2.alloc (.cells #[.string c.nm, .int .i64 c.k, .int .i64 c.n, .string c.s] 102))) := (Below.refl _ _).alloc (Nat.le_refl _) _
      have hown : (w2.alloc (.cells #[.string c.nm, .int .i64 c.k, .int .i64 c.n, .string c.s] 102)).ownsRow w.heap.size 102 4 v M.length (M.flatMap ASet.cells) := (H2.out.next B3.out).1
      have hbs : w.heap.size ≤ (w2.alloc (.cells #[.string c.nm, .int .i64 c.k, .int .i64 c.n, .string c.s] 102)).heap.size := (H2.out.next B3.out).2.size
      have hnews := new_row w2 c.cells 102
      obtain ⟨i0, hi, hz, hsz, hby⟩ := Tryz.infoT
      have hby6 : (M.length + 1) * i0.bytes ≤ 140737488355328 := by
        have : (M.length + 1) * i0.bytes ≤ 2000001 * 128 := Nat.mul_le_mul (by omega) hby
        omega
      go_wp2_with (at_builtin; refine wpList_append_own_at _ rfl _ _ 23 rfl w.heap.size 102 i0 _ 4 i0.bytes Tryz.underlying23 hi hz hsz rfl rfl (by decide) _ M.length (M.flatMap ASet.cells) rfl hown ⟨w2.heap.size, 0, none⟩ 1 1 c.cells rfl rfl hnews (by simp [ASet.cells, Value.oneCell']) (by unfold maxLen; omega) hby6 hbs ?_; intro v' w7 hown7 hgrow hnil hloc)
      have h7 : OwnT w v' (M ++ [c]) w7 := ⟨by simpa using hown7, (H2.out.next B3.out).2.grown hgrow hbs (own_base hown)⟩
      have HF : Hid (OwnT w v' ((ws.take (k + 1)).map fun x => setR x.data.toList) w7) := by rw [HX.out]; exact h7
      clear h7 hown7 hgrow hnil hloc hown hbs hnews hi hz hsz hby hby6 H2 B3 HX hlen
      go_wp2_with fail
      go_roundw
      case rel => exact ⟨k + 1, _, rfl, by omega, by go_num, HF⟩
      case measure => simp [intOf]; omega
    · have hkl : k = ws.length := by omega
      subst hkl
      go_wp2_with fail
      go_ret
      have h := hH.out
      rw [List.take_length] at h
      exact ⟨_, rfl, h⟩

end Go.Proofs.YtpcfebekkgfpjaaGreatDoor

/- The contract of impl.each at words that are read as columns, over the seat's translation. -/
namespace Go.Proofs.YtpcfebekkgfpjaaGreatDoor
open Go.RowKit

/-- Columns of the call's own, and W lies over w. -/
def OwnK (w : World) (v : Value) (L : List ACol) (W : World) : Prop := W.ownsRow w.heap.size 28 7 v L.length (L.flatMap ACol.cells) ∧ Below w.heap.size w W
theorem OwnK.next {w : World} {v : Value} {L : List ACol} {W W' : World} (h : OwnK w v L W) (hb : Below W.heap.size W W') : OwnK w v L W' := ⟨own_keep h.1 hb, h.2.trans (hb.mono h.2.size)⟩
theorem OwnK.nil (w : World) : OwnK w (.slice none 0 0) [] w := ⟨World.ownsRow_nil w _ _ _, Below.refl _ _⟩
theorem Tryz.infoK : ∃ i, Tryz.prog.info? 28 = some i ∧ i.zero = some (.agg #[.string ⟨#[]⟩, .int .i64 0, .bool false, .bool false, .int .i64 0, .int .i64 0, .string ⟨#[]⟩]) ∧ i.size = 7 ∧ i.bytes ≤ 128 := by
  have h : (Tryz.prog.info? 28).map (fun i => (i.zero, i.size, decide (i.bytes ≤ 128))) = some (some (.agg #[.string ⟨#[]⟩, .int .i64 0, .bool false, .bool false, .int .i64 0, .int .i64 0, .string ⟨#[]⟩]), 7, true) := by kernel_rfl
  obtain ⟨i, hi, he⟩ := Option.map_eq_some_iff.1 h
  simp only [Prod.mk.injEq, decide_eq_true_eq] at he
  exact ⟨i, hi, he.1, he.2.1, he.2.2⟩
/-- Columns are what words are read as. -/
def RdL (ws : List ByteArray) (L : List ACol) : Prop := L.length = ws.length ∧ ∀ (i : Nat) x c, ws[i]? = some x → L[i]? = some c → ColRd x.data.toList c
theorem RdL.snoc {ws : List ByteArray} {k : Nat} {L : List ACol} {x : ByteArray} {c : ACol} (h : RdL (ws.take k) L) (hx : ws[k]? = some x) (hc : ColRd x.data.toList c) : RdL (ws.take (k + 1)) (L ++ [c]) := by
  obtain ⟨hk, e⟩ := List.getElem?_eq_some_iff.1 hx
  have hl : L.length = k := by rw [h.1, List.length_take]; omega
  rw [List.take_succ_eq_append_getElem hk, e]
  refine ⟨by simp [h.1], fun i y d hy hd => ?_⟩
  by_cases hi : i < k
  · rw [List.getElem?_append_left (by rw [List.length_take]; omega)] at hy
    rw [List.getElem?_append_left (by omega)] at hd
    exact h.2 i y d hy hd
  · have hi2 : i = k := by
      have := (List.getElem?_eq_some_iff.1 hd).1
      rw [List.length_append, List.length_singleton] at this
      omega
    subst hi2
    rw [List.getElem?_append_right (by rw [List.length_take]; omega)] at hy
    rw [List.getElem?_append_right (by omega)] at hd
    have e1 : i - (ws.take i).length = 0 := by rw [List.length_take]; omega
    have e2 : i - L.length = 0 := by omega
    rw [e1] at hy
    rw [e2] at hd
    simp at hy hd
    subst hy hd
    exact hc

set_option maxRecDepth 100000 in
set_option maxHeartbeats 2000000 in
theorem each_read_cols (m : Int) (a : Option Addr) (cap : Nat) (ws : List ByteArray) (w : World) (ha : StrsAt w a ws) (hs : ∀ x ∈ ws, x.size ≤ 1048576) (hm : ws.length ≤ 2000000) (htab : Tb w) (hM : Mx m w) :
    Calls Tryz.prog 52 #[.slice a ws.length cap, .func (.func 53) #[] #[]] w fun e w' => ∃ v L, e = .returned v ∧ OwnK w v L w' ∧ RdL ws L := by
  have HT : Hid (Tb w ∧ Mx m w) := ⟨htab, hM⟩
  clear htab hM
  go_enter Tryz.func52, Tryz.ntmps52
  go_wp2_with fail
  go_loopw [5, 10] (fun v0 i wr => ∃ (k : Nat) (M : List ACol) (v : Value), v = v0 ∧ k ≤ ws.length ∧ i = .int .i64 k ∧ Hid (OwnK w v M wr ∧ RdL (ws.take k) M)) (fun _ i _ => ws.length - (intOf i).toNat)
  case atStart => exact ⟨0, [], _, rfl, Nat.zero_le _, rfl, ⟨OwnK.nil w, rfl, fun _ _ _ h _ => by simp at h⟩⟩
  case round =>
    obtain ⟨k, M, v, rfl, hk, rfl, hH⟩ := hrel
    by_cases hlt : k < ws.length
    · obtain ⟨b, o, hab, hbl, hT⟩ := (ha.keep hH.out.1.2).at hlt
      have hc := List.getElem?_eq_getElem hlt
      have hsz := hs _ (List.getElem_mem hlt)
      revert hT hc hsz
      generalize ws[k] = x
      intro hT hc hsz
      have hix : ∀ wx, (Instr.indexAt 50 (.slice a ws.length cap) (.int .i64 k)).run Tryz.prog wx = .ok (.pointer (some ⟨b, o + k, none⟩)) wx := fun wx => by
        have h := run_ixk 1 _ _ b o _ cap k wx hlt Tryz.underlying50 (Tryz.sizeOf9 wx)
        rw [Nat.mul_one] at h
        rw [hab]; exact h
      have hC : Hid (ws[k]? = some x ∧ x.size ≤ 1048576) := ⟨hc, hsz⟩
      clear hab ha hbl hc hsz hs
      go_wp2_with fail
      refine (read_col m x _ hC.out.2 (tb_next HT.out.1 hH.out.1.2) (HT.out.2.next hH.out.1.2)).mono ?_
      rintro e w2 ⟨c, rfl, hcr, hq⟩
      have H2 : Hid (OwnK w v M w2) := hH.out.1.next hq
      have HX : Hid (RdL (ws.take (k + 1)) (M ++ [c])) := hH.out.2.snoc hC.out.1 hcr
      have hlen : M.length = k := by rw [hH.out.2.1, List.length_take]; omega
      clear hq hH hT hcr
      have B3 : Hid (Below w2.heap.size w2 (w2.alloc (.cells #[.string c.nm, .int .i64 c.kd, .bool c.nd, .bool c.oc, .int .i64 c.k, .int .i64 c.n, .string c.s] 28))) := (Below.refl _ _).alloc (Nat.le_refl _) _
      have hown : (w2.alloc (.cells #[.string c.nm, .int .i64 c.kd, .bool c.nd, .bool c.oc, .int .i64 c.k, .int .i64 c.n, .string c.s] 28)).ownsRow w.heap.size 28 7 v M.length (M.flatMap ACol.cells) := (H2.out.next B3.out).1
      have hbs : w.heap.size ≤ (w2.alloc (.cells #[.string c.nm, .int .i64 c.kd, .bool c.nd, .bool c.oc, .int .i64 c.k, .int .i64 c.n, .string c.s] 28)).heap.size := (H2.out.next B3.out).2.size
      have hnews := new_row w2 c.cells 28
      obtain ⟨i0, hi, hz, hsz, hby⟩ := Tryz.infoK
      have hby6 : (M.length + 1) * i0.bytes ≤ 140737488355328 := by
        have : (M.length + 1) * i0.bytes ≤ 2000001 * 128 := Nat.mul_le_mul (by omega) hby
        omega
      go_wp2_with (at_builtin; refine wpList_append_own_at _ rfl _ _ 24 rfl w.heap.size 28 i0 _ 7 i0.bytes Tryz.underlying24 hi hz hsz rfl rfl (by decide) _ M.length (M.flatMap ACol.cells) rfl hown ⟨w2.heap.size, 0, none⟩ 1 1 c.cells rfl rfl hnews (by simp [ACol.cells, Value.oneCell']) (by unfold maxLen; omega) hby6 hbs ?_; intro v' w7 hown7 hgrow hnil hloc)
      have h7 : OwnK w v' (M ++ [c]) w7 := ⟨by simpa using hown7, (H2.out.next B3.out).2.grown hgrow hbs (own_base hown)⟩
      have HF : Hid (OwnK w v' (M ++ [c]) w7 ∧ RdL (ws.take (k + 1)) (M ++ [c])) := ⟨h7, HX.out⟩
      clear h7 hown7 hgrow hnil hloc hown hbs hnews hi hz hsz hby hby6 H2 B3 HX hlen
      go_wp2_with fail
      go_roundw
      case rel => exact ⟨k + 1, _, _, rfl, by omega, by go_num, HF⟩
      case measure => simp [intOf]; omega
    · have hkl : k = ws.length := by omega
      subst hkl
      go_wp2_with fail
      go_ret
      have h := hH.out
      rw [List.take_length] at h
      exact ⟨_, M, rfl, h.1, h.2⟩

end Go.Proofs.YtpcfebekkgfpjaaGreatDoor

/- Which words are whose: plain facts, no program in them. -/
namespace Go.Proofs.YtpcfebekkgfpjaaGreatDoor
open Go.RowKit

theorem bytes_same {s t : ByteArray} (h : s.data.toList = t.data.toList) : s = t := by rw [← bytes_eta s, h, bytes_eta]

/-- What the words of what is right tell of it. -/
theorem act_inv {y : AAct} (h : implDeed y = true) {v n : Bs} {r : List Bs} (e : actW y = v :: n :: r) :
    (v = [116, 97, 98, 108, 101] ∧ deedAct y = ⟨1, y.nm, 0, [], y.cols, chg0, lnk0⟩ ∧ n = y.nm.data.toList ∧ r = y.cols.map colW ∧ ∀ c ∈ y.cols, c.ok = true) ∨
    (v = [108, 105, 110, 107] ∧ deedAct y = ⟨2, ⟨#[]⟩, 0, [], [], chg0, y.l⟩ ∧ n = y.l.fr.data.toList ∧ r = [y.l.co.data.toList, y.l.tt.data.toList, howB y.l.hw] ∧ howOk y.l.hw = true) ∨
    (v = [112, 117, 116] ∧ deedAct y = ⟨3, y.nm, 0, y.sets, [], chg0, lnk0⟩ ∧ n = y.nm.data.toList ∧ r = y.sets.map setW ∧ ∀ c ∈ y.sets, c.ok = true) ∨
    (v = [115, 101, 116] ∧ deedAct y = ⟨4, y.nm, y.id, y.sets, [], chg0, lnk0⟩ ∧ n = y.nm.data.toList ∧ r = Lib.itoa y.id :: y.sets.map setW ∧ (∀ c ∈ y.sets, c.ok = true) ∧ 0 ≤ y.id ∧ y.id ≤ 60) ∨
    (v = [111, 102, 102] ∧ deedAct y = ⟨5, y.nm, y.id, [], [], chg0, lnk0⟩ ∧ n = y.nm.data.toList ∧ r = [Lib.itoa y.id] ∧ 0 ≤ y.id ∧ y.id ≤ 60) ∨
    (v = [97, 100, 100] ∧ deedAct y = ⟨6, y.nm, 0, [], [], ⟨1, ⟨#[]⟩, ⟨#[]⟩, y.g.c⟩, lnk0⟩ ∧ n = y.nm.data.toList ∧ r = [colW y.g.c] ∧ y.g.c.ok = true) ∨
    (v = [100, 114, 111, 112] ∧ deedAct y = ⟨6, y.nm, 0, [], [], ⟨2, y.g.nm, ⟨#[]⟩, colK 0⟩, lnk0⟩ ∧ n = y.nm.data.toList ∧ r = [y.g.nm.data.toList]) ∨
    (v = [110, 97, 109, 101] ∧ deedAct y = ⟨6, y.nm, 0, [], [], ⟨3, y.g.nm, y.g.nw, colK 0⟩, lnk0⟩ ∧ n = y.nm.data.toList ∧ r = [y.g.nm.data.toList, y.g.nw.data.toList]) ∨
    (v = [107, 105, 110, 100] ∧ deedAct y = ⟨6, y.nm, 0, [], [], ⟨4, y.g.nm, ⟨#[]⟩, colK y.g.c.kd⟩, lnk0⟩ ∧ n = y.nm.data.toList ∧ r = [y.g.nm.data.toList, kindB y.g.c.kd] ∧ kindOk y.g.c.kd = true) := by
  unfold implDeed at h
  unfold actW at e
  unfold deedAct
  by_cases h1 : y.kd = 1
  · simp only [h1, if_true, Bool.and_eq_true, List.all_eq_true] at h e
    simp only [List.cons.injEq] at e
    obtain ⟨e1, e2, e3⟩ := e
    exact Or.inl ⟨e1.symm, by simp [h1], e2.symm, e3.symm, h.2.2.2⟩
  by_cases h2 : y.kd = 2
  · simp only [h2, if_true, Int.reduceEq, if_false, Bool.and_eq_true] at h e
    simp only [List.cons.injEq] at e
    obtain ⟨e1, e2, e3⟩ := e
    exact Or.inr (Or.inl ⟨e1.symm, by simp [h2], e2.symm, e3.symm, h.2.2.2⟩)
  by_cases h3 : y.kd = 3
  · simp only [h3, if_true, Int.reduceEq, if_false, Bool.and_eq_true, List.all_eq_true] at h e
    simp only [List.cons.injEq] at e
    obtain ⟨e1, e2, e3⟩ := e
    exact Or.inr (Or.inr (Or.inl ⟨e1.symm, by simp [h3], e2.symm, e3.symm, h.2.2⟩))
  by_cases h4 : y.kd = 4
  · simp only [h4, if_true, Int.reduceEq, if_false, Bool.and_eq_true, List.all_eq_true] at h e
    simp only [List.cons.injEq] at e
    obtain ⟨e1, e2, e3⟩ := e
    have hi := id_le h.2.1
    exact Or.inr (Or.inr (Or.inr (Or.inl ⟨e1.symm, by simp [h4], e2.symm, e3.symm, h.2.2.2, hi.1, hi.2⟩)))
  by_cases h5 : y.kd = 5
  · simp only [h5, if_true, Int.reduceEq, if_false, Bool.and_eq_true] at h e
    simp only [List.cons.injEq] at e
    obtain ⟨e1, e2, e3⟩ := e
    have hi := id_le h.2
    exact Or.inr (Or.inr (Or.inr (Or.inr (Or.inl ⟨e1.symm, by simp [h5], e2.symm, e3.symm, hi.1, hi.2⟩))))
  by_cases h6 : y.kd = 6
  · by_cases g1 : y.g.kd = 1
    · simp only [h6, g1, if_true, Int.reduceEq, if_false, Bool.and_eq_true] at h e
      simp only [List.cons.injEq] at e
      obtain ⟨e1, e2, e3⟩ := e
      exact Or.inr (Or.inr (Or.inr (Or.inr (Or.inr (Or.inl ⟨e1.symm, by simp [h6, g1], e2.symm, e3.symm, h.2⟩)))))
    by_cases g2 : y.g.kd = 2
    · simp only [h6, g2, if_true, Int.reduceEq, if_false, Bool.and_eq_true] at h e
      simp only [List.cons.injEq] at e
      obtain ⟨e1, e2, e3⟩ := e
      exact Or.inr (Or.inr (Or.inr (Or.inr (Or.inr (Or.inr (Or.inl ⟨e1.symm, by simp [h6, g2], e2.symm, e3.symm⟩))))))
    by_cases g3 : y.g.kd = 3
    · simp only [h6, g3, if_true, Int.reduceEq, if_false, Bool.and_eq_true] at h e
      simp only [List.cons.injEq] at e
      obtain ⟨e1, e2, e3⟩ := e
      exact Or.inr (Or.inr (Or.inr (Or.inr (Or.inr (Or.inr (Or.inr (Or.inl ⟨e1.symm, by simp [h6, g3], e2.symm, e3.symm⟩)))))))
    by_cases g4 : y.g.kd = 4
    · simp only [h6, g4, if_true, Int.reduceEq, if_false, Bool.and_eq_true] at h e
      simp only [List.cons.injEq] at e
      obtain ⟨e1, e2, e3⟩ := e
      exact Or.inr (Or.inr (Or.inr (Or.inr (Or.inr (Or.inr (Or.inr (Or.inr ⟨e1.symm, by simp [h6, g4], e2.symm, e3.symm, h.2.2⟩)))))))
    · simp [h6, g1, g2, g3, g4] at h
  · simp [h1, h2, h3, h4, h5, h6] at h

/-- What words are read as: what is right and is written so is that. -/
def ActRd (W : List Bs) (x : AAct) : Prop := ∀ y : AAct, implDeed y = true → actW y = W → x = deedAct y

theorem map_bytes {ws : List ByteArray} {L : List ASet} (h : ws.map (·.data.toList) = L.map setW) (hok : ∀ c ∈ L, c.ok = true) : (ws.map fun x => setR x.data.toList) = L := by
  have e : (ws.map fun x => setR x.data.toList) = (ws.map (·.data.toList)).map setR := by rw [List.map_map]; rfl
  rw [e, h, List.map_map]
  conv => rhs; rw [← List.map_id L]
  exact List.map_congr_left fun c hc => setR_word (hok c hc)
theorem cols_bytes {ws : List ByteArray} {M L : List ACol} (h : ws.map (·.data.toList) = L.map colW) (hok : ∀ c ∈ L, c.ok = true) (hr : RdL ws M) : M = L := by
  have hl : ws.length = L.length := by have := congrArg List.length h; simpa using this
  refine List.ext_getElem (by rw [hr.1, hl]) fun i h1 h2 => ?_
  have hw : i < ws.length := by omega
  have hb : (ws[i]).data.toList = colW L[i] := by
    have h3 : (ws.map (·.data.toList))[i]? = (L.map colW)[i]? := by rw [h]
    rw [List.getElem?_eq_getElem (by simpa using hw), List.getElem?_eq_getElem (by simpa using h2), List.getElem_map, List.getElem_map] at h3
    exact Option.some.inj h3
  exact (hr.2 i _ _ (List.getElem?_eq_getElem hw) (List.getElem?_eq_getElem h1)).2 _ (hok _ (List.getElem_mem h2)) hb

/-- A word, or an empty one. -/
def wAt (ws : List ByteArray) (i : Nat) : ByteArray := ws[i]?.getD ⟨#[]⟩
theorem wAt_of {ws : List ByteArray} {i : Nat} {b : Bs} (h : (ws.map (·.data.toList))[i]? = some b) : (wAt ws i).data.toList = b := by
  rw [List.getElem?_map, Option.map_eq_some_iff] at h
  obtain ⟨x, hx, rfl⟩ := h
  simp [wAt, hx]
theorem wAt_le {ws : List ByteArray} {m : Nat} (h : ∀ x ∈ ws, x.size ≤ m) (i : Nat) : (wAt ws i).size ≤ m := by
  unfold wAt
  cases hx : ws[i]? with
  | none => exact Nat.zero_le _
  | some x => exact h x (List.mem_of_getElem? hx)

theorem rd_table {verb nm : ByteArray} {ws : List ByteArray} {M : List ACol} (hr : RdL ws M) (hv : verb.toList = [116, 97, 98, 108, 101]) : ActRd (verb.data.toList :: nm.data.toList :: ws.map (·.data.toList)) ⟨1, nm, 0, [], M, chg0, lnk0⟩ := fun y hy e => by
  rw [ByteArray.toList_eq] at hv
  rcases act_inv hy e with h | h | h | h | h | h | h | h | h
  case inl =>
    obtain ⟨_, h2, h3, h4, h5⟩ := h
    rw [h2, bytes_same h3, cols_bytes h4 h5 hr]
  all_goals exact absurd h.1 (by rw [hv]; decide)

theorem rd_link {verb nm : ByteArray} {ws : List ByteArray} {k : Int} (hk : ∀ q, howOk q = true → (wAt ws 2).data.toList = howB q → k = q) (hv : verb.toList = [108, 105, 110, 107]) : ActRd (verb.data.toList :: nm.data.toList :: ws.map (·.data.toList)) ⟨2, ⟨#[]⟩, 0, [], [], chg0, ⟨nm, wAt ws 0, wAt ws 1, k⟩⟩ := fun y hy e => by
  rw [ByteArray.toList_eq] at hv
  rcases act_inv hy e with h | h | h | h | h | h | h | h | h
  case inr.inl =>
    obtain ⟨_, h2, h3, h4, h5⟩ := h
    rw [h2, bytes_same h3, bytes_same (wAt_of (i := 0) (by rw [h4]; rfl)), bytes_same (wAt_of (i := 1) (by rw [h4]; rfl)), hk _ h5 (wAt_of (i := 2) (by rw [h4]; rfl))]
  all_goals exact absurd h.1 (by rw [hv]; decide)

theorem rd_put {verb nm : ByteArray} {ws : List ByteArray} (hv : verb.toList = [112, 117, 116]) : ActRd (verb.data.toList :: nm.data.toList :: ws.map (·.data.toList)) ⟨3, nm, 0, ws.map fun x => setR x.data.toList, [], chg0, lnk0⟩ := fun y hy e => by
  rw [ByteArray.toList_eq] at hv
  rcases act_inv hy e with h | h | h | h | h | h | h | h | h
  case inr.inr.inl =>
    obtain ⟨_, h2, h3, h4, h5⟩ := h
    rw [h2, bytes_same h3, map_bytes h4 h5]
  all_goals exact absurd h.1 (by rw [hv]; decide)

theorem rd_set {verb nm : ByteArray} {ws : List ByteArray} (hv : verb.toList = [115, 101, 116]) : ActRd (verb.data.toList :: nm.data.toList :: ws.map (·.data.toList)) ⟨4, nm, (readNum (wAt ws 0).data.toList).getD 0, (ws.drop 1).map fun x => setR x.data.toList, [], chg0, lnk0⟩ := fun y hy e => by
  rw [ByteArray.toList_eq] at hv
  rcases act_inv hy e with h | h | h | h | h | h | h | h | h
  case inr.inr.inr.inl =>
    obtain ⟨_, h2, h3, h4, h5, h6, h7⟩ := h
    have h8 : (ws.drop 1).map (·.data.toList) = y.sets.map setW := by rw [List.map_drop, h4]; rfl
    rw [h2, bytes_same h3, map_bytes h8 h5, wAt_of (i := 0) (by rw [h4]; rfl), readNum_itoa (by omega) (by omega)]
    rfl
  all_goals exact absurd h.1 (by rw [hv]; decide)

theorem rd_off {verb nm : ByteArray} {ws : List ByteArray} (hv : verb.toList = [111, 102, 102]) : ActRd (verb.data.toList :: nm.data.toList :: ws.map (·.data.toList)) ⟨5, nm, (readNum (wAt ws 0).data.toList).getD 0, [], [], chg0, lnk0⟩ := fun y hy e => by
  rw [ByteArray.toList_eq] at hv
  rcases act_inv hy e with h | h | h | h | h | h | h | h | h
  case inr.inr.inr.inr.inl =>
    obtain ⟨_, h2, h3, h4, h6, h7⟩ := h
    rw [h2, bytes_same h3, wAt_of (i := 0) (by rw [h4]; rfl), readNum_itoa (by omega) (by omega)]
    rfl
  all_goals exact absurd h.1 (by rw [hv]; decide)

theorem rd_add {verb nm : ByteArray} {ws : List ByteArray} {c : ACol} (hc : ColRd (wAt ws 0).data.toList c) (hv : verb.toList = [97, 100, 100]) : ActRd (verb.data.toList :: nm.data.toList :: ws.map (·.data.toList)) ⟨6, nm, 0, [], [], ⟨1, ⟨#[]⟩, ⟨#[]⟩, c⟩, lnk0⟩ := fun y hy e => by
  rw [ByteArray.toList_eq] at hv
  rcases act_inv hy e with h | h | h | h | h | h | h | h | h
  case inr.inr.inr.inr.inr.inl =>
    obtain ⟨_, h2, h3, h4, h5⟩ := h
    rw [h2, bytes_same h3, hc.2 _ h5 (wAt_of (i := 0) (by rw [h4]; rfl))]
  all_goals exact absurd h.1 (by rw [hv]; decide)

theorem rd_drop {verb nm : ByteArray} {ws : List ByteArray} (hv : verb.toList = [100, 114, 111, 112]) : ActRd (verb.data.toList :: nm.data.toList :: ws.map (·.data.toList)) ⟨6, nm, 0, [], [], ⟨2, wAt ws 0, ⟨#[]⟩, colK 0⟩, lnk0⟩ := fun y hy e => by
  rw [ByteArray.toList_eq] at hv
  rcases act_inv hy e with h | h | h | h | h | h | h | h | h
  case inr.inr.inr.inr.inr.inr.inl =>
    obtain ⟨_, h2, h3, h4⟩ := h
    rw [h2, bytes_same h3, bytes_same (wAt_of (i := 0) (by rw [h4]; rfl))]
  all_goals exact absurd h.1 (by rw [hv]; decide)

theorem rd_name {verb nm : ByteArray} {ws : List ByteArray} (hv : verb.toList = [110, 97, 109, 101]) : ActRd (verb.data.toList :: nm.data.toList :: ws.map (·.data.toList)) ⟨6, nm, 0, [], [], ⟨3, wAt ws 0, wAt ws 1, colK 0⟩, lnk0⟩ := fun y hy e => by
  rw [ByteArray.toList_eq] at hv
  rcases act_inv hy e with h | h | h | h | h | h | h | h | h
  case inr.inr.inr.inr.inr.inr.inr.inl =>
    obtain ⟨_, h2, h3, h4⟩ := h
    rw [h2, bytes_same h3, bytes_same (wAt_of (i := 0) (by rw [h4]; rfl)), bytes_same (wAt_of (i := 1) (by rw [h4]; rfl))]
  all_goals exact absurd h.1 (by rw [hv]; decide)

theorem rd_kind {verb nm : ByteArray} {ws : List ByteArray} {k : Int} (hk : ∀ q, kindOk q = true → (wAt ws 1).data.toList = kindB q → k = q) (hv : verb.toList = [107, 105, 110, 100]) : ActRd (verb.data.toList :: nm.data.toList :: ws.map (·.data.toList)) ⟨6, nm, 0, [], [], ⟨4, wAt ws 0, ⟨#[]⟩, colK k⟩, lnk0⟩ := fun y hy e => by
  rw [ByteArray.toList_eq] at hv
  rcases act_inv hy e with h | h | h | h | h | h | h | h | h
  case inr.inr.inr.inr.inr.inr.inr.inr =>
    obtain ⟨_, h2, h3, h4, h5⟩ := h
    rw [h2, bytes_same h3, bytes_same (wAt_of (i := 0) (by rw [h4]; rfl)), hk _ h5 (wAt_of (i := 1) (by rw [h4]; rfl))]
  all_goals exact absurd h.1 (by rw [hv]; decide)

theorem rd_none {verb : ByteArray} {W : List Bs} (h1 : (verb.toList == [116, 97, 98, 108, 101]) = false) (h2 : (verb.toList == [108, 105, 110, 107]) = false) (h3 : (verb.toList == [112, 117, 116]) = false) (h4 : (verb.toList == [115, 101, 116]) = false) (h5 : (verb.toList == [111, 102, 102]) = false) (h6 : (verb.toList == [97, 100, 100]) = false) (h7 : (verb.toList == [100, 114, 111, 112]) = false) (h8 : (verb.toList == [110, 97, 109, 101]) = false) (h9 : (verb.toList == [107, 105, 110, 100]) = false) (n : Bs) : ∀ y : AAct, implDeed y = true → actW y ≠ verb.data.toList :: n :: W := fun y hy e => by
  rw [beq_eq_false_iff_ne, ByteArray.toList_eq] at h1 h2 h3 h4 h5 h6 h7 h8 h9
  rcases act_inv hy e with h | h | h | h | h | h | h | h | h
  · exact h1 h.1
  · exact h2 h.1
  · exact h3 h.1
  · exact h4 h.1
  · exact h5 h.1
  · exact h6 h.1
  · exact h7 h.1
  · exact h8 h.1
  · exact h9 h.1

end Go.Proofs.YtpcfebekkgfpjaaGreatDoor
