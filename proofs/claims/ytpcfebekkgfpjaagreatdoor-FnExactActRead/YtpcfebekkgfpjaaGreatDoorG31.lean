/- The contract of spec.l5ReadSets, over the seat's translation. -/
import Derived.Test.YtpcfebekkgfpjaaGreatDoorArS6
import Derived.Deep.RegionHeldLaw
import Derived.Test.YtpcfebekkgfpjaaGreatDoorArS16
namespace Go.Proofs.YtpcfebekkgfpjaaGreatDoor
open Go.RowKit

theorem cut_set {c : ASet} (h : c.ok = true) : cutB 61 (setW c) = [c.nm.data.toList, textV c.k c.n c.s] := by
  simp only [ASet.ok, Bool.and_eq_true] at h
  unfold setW
  rw [cutB_at _ (plain_name h.1).2.1, cutB_none (plain_text _ _ _).2.1]
/-- Values told that were read so far are those that were written. -/
def SetsTo (ws : List ByteArray) (i : Nat) (M : List ASet) : Prop :=
  (∀ c ∈ M, c.nm.size ≤ 1048576 ∧ c.s.size ≤ 1048576) ∧ M.length ≤ i ∧ ∀ L : List ASet, (∀ c ∈ L, c.ok = true) → L.length ≤ 5 → ws.map (·.data.toList) = L.map setW → M = L.take i
theorem setsto_start (ws : List ByteArray) : SetsTo ws 0 [] := ⟨fun _ h => by simp at h, Nat.le_refl _, fun _ _ _ _ => rfl⟩
theorem told_at {ws : List ByteArray} {L : List ASet} {i : Nat} {x : ByteArray} (h : ws.map (·.data.toList) = L.map setW) (hx : ws[i]? = some x) : ∃ c, L[i]? = some c ∧ x.data.toList = setW c := by
  have h1 : (ws.map (·.data.toList))[i]? = (L.map setW)[i]? := by rw [h]
  rw [List.getElem?_map, hx, List.getElem?_map] at h1
  cases hc : L[i]? with
  | none => rw [hc] at h1; cases h1
  | some c =>
    rw [hc] at h1
    exact ⟨c, rfl, Option.some.inj h1⟩
theorem setsto_skip {ws : List ByteArray} {i : Nat} {M : List ASet} {x : ByteArray} {p : List ByteArray} (h : SetsTo ws i M) (hx : ws[i]? = some x) (hp : p.map (·.data.toList) = cutB 61 x.data.toList) (hl : p.length ≠ 2) : SetsTo ws (i + 1) M := by
  refine ⟨h.1, by have := h.2.1; omega, fun L hok h5 hL => ?_⟩
  obtain ⟨c, hc, hxc⟩ := told_at hL hx
  rw [hxc, cut_set (hok c (List.mem_of_getElem? hc))] at hp
  have := congrArg List.length hp
  simp at this
  exact absurd this hl
theorem setsto_next {ws : List ByteArray} {i : Nat} {M : List ASet} {x y z : ByteArray} {k n : Int} {s : Bs} {b : Bool} (h : SetsTo ws i M) (hx : ws[i]? = some x) (hxs : x.size ≤ 1048576) (hp : [y, z].map (·.data.toList) = cutB 61 x.data.toList) (hr : readV z.data.toList = (k, n, s, b)) : SetsTo ws (i + 1) (M ++ [⟨y, k, n, ⟨s.toArray⟩⟩]) := by
  have hy := cutB_le 61 x.data.toList y.data.toList (by rw [← hp]; simp)
  have hz := cutB_le 61 x.data.toList z.data.toList (by rw [← hp]; simp)
  have hv := readV_le z.data.toList
  rw [hr] at hv
  simp at hy hz hv
  refine ⟨fun c hc => ?_, by have := h.2.1; rw [List.length_append, List.length_singleton]; omega, fun L hok h5 hL => ?_⟩
  · rcases List.mem_append.1 hc with hc | hc
    · exact h.1 c hc
    · rw [List.mem_singleton] at hc
      subst hc
      refine ⟨by show y.size ≤ _; omega, ?_⟩
      show s.toArray.size ≤ _
      simp
      omega
  · obtain ⟨c, hc, hxc⟩ := told_at hL hx
    have hco := hok c (List.mem_of_getElem? hc)
    rw [hxc, cut_set hco] at hp
    simp at hp
    simp only [ASet.ok, Bool.and_eq_true] at hco
    rw [hp.2, read_text _ _ _ hco.2] at hr
    simp only [Prod.mk.injEq] at hr
    obtain ⟨hl, e⟩ := List.getElem?_eq_some_iff.1 hc
    rw [h.2.2 L hok h5 hL, List.take_succ_eq_append_getElem hl, e]
    congr 1
    obtain ⟨rfl, rfl, rfl, _⟩ := hr
    rw [bytes_same (s := y) (t := c.nm) (congrArg Array.toList hp.1), bytes_eta]
theorem setsto_end {ws : List ByteArray} {i : Nat} {M : List ASet} (h : SetsTo ws i M) (hi : ws.length ≤ i ∨ 5 < i) : ∀ L : List ASet, (∀ c ∈ L, c.ok = true) → L.length ≤ 5 → ws.map (·.data.toList) = L.map setW → M = L := fun L hok h5 hL => by
  have hl : ws.length = L.length := by have := congrArg List.length hL; simpa using this
  rw [h.2.2 L hok h5 hL]
  exact List.take_of_length_le (by omega)

/-- append onto a slice of the call's own, as one step of a region that draws. -/
theorem step_app_to {P : Program} {ops : Array Oper} {o : Oper} {a : Act} {w : World} {K : Act → World → Prop} {Q : Exit → Act → World → Prop} {E : Prop}
    (d : Option Tmp) (hd : o.dst = d) (hg : o.guard = none) (s x : Operand) (t : TypeId) (hop : o.op = Op.call { callee := Callee.builtin Builtin.append, args := #[s, x], argTypes := #[t, t] })
    (base : Nat) (e : TypeId) (i : TypeInfo) (z : Value) (size bytes : Nat) (ht : P.underlying t = some (.slice e)) (hi : P.info? e = some i) (hz : i.zero = some z)
    (hsize : i.size = size) (hby : i.bytes = bytes) (hzs : z.cells.size = size) (hsz : 0 < size)
    (v : Value) (n : Nat) (xs : List Value) (hs : a.eval s = v) (hown : w.ownsRow base e size v n xs)
    (ad : Addr) (m c : Nat) (news : List Value) (hx : a.eval x = .slice (some ad) m c) (hl : news.length = m * size) (hnews : ∀ j u, news[j]? = some u → w.cell? (ad.add j) = some u) (h1 : ∀ u ∈ news, u.oneCell' = true)
    (h63 : n + m ≤ maxLen) (hbytes : (n + m) * bytes ≤ 140737488355328) (hbase : base ≤ w.heap.size)
    (hK : ∀ v' w', w'.ownsRow base e size v' (n + m) (xs ++ news) → w.grownBy w' v.ownBlock → (v' = .slice none 0 0 ↔ v = .slice none 0 0 ∧ m = 0) → K (a.put d v') w') :
    if Region.wanted o (yielded ops a.tmps) = true then Oper.wp P o a w K Q else E := by
  subst hd
  have hw : Region.wanted o (yielded ops a.tmps) = true := by simp [Region.wanted, hg]
  rw [if_pos hw]
  obtain ⟨v', w', hr, h2, h3, h4, _⟩ := run_append_own_at (P := P) w base t o.type e i z size bytes ht hi hz hsize hby hzs hsz v n xs hown ad m c news hl hnews h1 h63 hbytes hbase
  unfold Oper.wp
  simp [execOp, hop, resolve, invoke, builtin, hs, hx, hr, Result.andThen]
  exact hK v' w' h2 h3 h4

theorem alloc_up (W : World) (o : Obj) : Below W.heap.size W (W.alloc o) := (Below.refl _ _).alloc (Nat.le_refl _) o
theorem own_up2 {w : World} {v : Value} {M : List ASet} {W : World} {o : Obj} (h : OwnT w v M W) : (W.drew.alloc o).ownsRow w.heap.size 102 4 v M.length (M.flatMap ASet.cells) := (h.next ((Below.refl _ _).drew)).next (alloc_up _ o) |>.1
theorem own_up3 {w : World} {v : Value} {M : List ASet} {W : World} {o : Obj} (h : OwnT w v M W) : w.heap.size ≤ (W.drew.alloc o).heap.size := (((h.next ((Below.refl _ _).drew)).next (alloc_up _ o)).2).size
theorem own_up4 {w : World} {v v7 : Value} {M : List ASet} {W w7 : World} {o : Obj} {c : ASet} (h : OwnT w v M W) (h7 : w7.ownsRow w.heap.size 102 4 v7 (M.length + 1) (M.flatMap ASet.cells ++ c.cells)) (hg : (W.drew.alloc o).grownBy w7 v.ownBlock) : OwnT w v7 (M ++ [c]) w7 := by
  have h1 := (h.next ((Below.refl _ _).drew)).next (alloc_up _ o)
  exact ⟨by simpa using h7, h1.2.grown hg h1.2.size (own_base h1.1)⟩
/-- A word and a value lie beside what was read so far. -/
abbrev OneV (w : World) (v : Value) (_M : List ASet) (g Bv : Nat) (y : ByteArray) (k n : Int) (s : ByteArray) (W : World) : Prop :=
  W.cell? ⟨g, 0, none⟩ = some (.string y) ∧ W.cell? ⟨Bv, 0, none⟩ = some (.int .i64 k) ∧ W.cell? ⟨Bv, 1, none⟩ = some (.int .i64 n) ∧ W.cell? ⟨Bv, 2, none⟩ = some (.string s) ∧ Hid (g < W.heap.size ∧ Bv < W.heap.size ∧ (∀ u, v.ownBlock = some u → u ≠ g ∧ u ≠ Bv ∧ w.heap.size ≤ u) ∧ Below w.heap.size w W)
theorem onev_next {w : World} {v : Value} {M : List ASet} {g Bv : Nat} {y : ByteArray} {k n : Int} {s : ByteArray} {W W' : World} (h : OneV w v M g Bv y k n s W) (hb : Below W.heap.size W W') : OneV w v M g Bv y k n s W' := by
  obtain ⟨h0, h1, h2, h3, h4, h5, h6, h7⟩ := h
  have hc := fun b o hl => (bcell hb).1 b o hl
  exact ⟨by rw [hc _ _ h4]; exact h0, by rw [hc _ _ h5]; exact h1, by rw [hc _ _ h5]; exact h2, by rw [hc _ _ h5]; exact h3, Nat.lt_of_lt_of_le h4 hb.size, Nat.lt_of_lt_of_le h5 hb.size, h6, h7.trans (hb.mono h7.size)⟩
theorem onev_grown {w : World} {v : Value} {M : List ASet} {g Bv : Nat} {y : ByteArray} {k n : Int} {s : ByteArray} {W W' : World} (h : OneV w v M g Bv y k n s W) (hg : W.grownBy W' v.ownBlock) : OneV w v M g Bv y k n s W' := by
  obtain ⟨h0, h1, h2, h3, h4, h5, h6, h7⟩ := h
  have n1 : v.ownBlock ≠ some g := fun e => (h6 g e).1 rfl
  have n2 : v.ownBlock ≠ some Bv := fun e => (h6 Bv e).2.1 rfl
  exact ⟨hg.cell h0 (fun e => n1 e.symm), hg.cell h1 (fun e => n2 e.symm), hg.cell h2 (fun e => n2 e.symm), hg.cell h3 (fun e => n2 e.symm), Nat.lt_of_lt_of_le h4 hg.size, Nat.lt_of_lt_of_le h5 hg.size, h6, h7.grown hg h7.size (fun u hu => (h6 u hu).2.2)⟩

set_option maxRecDepth 100000 in
set_option maxHeartbeats 2000000 in
theorem spec_read_sets (a : Option Addr) (cap : Nat) (ws : List ByteArray) (w : World) (ha : StrsAt w a ws) (hs : ∀ x ∈ ws, x.size ≤ 1048576) (_hm : ws.length ≤ 2000000) :
    Calls Tryz.prog 77 #[.slice a ws.length cap] w fun e w' => ∃ v M, e = .returned v ∧ OwnT w v M w' ∧ (∀ c ∈ M, c.nm.size ≤ 1048576 ∧ c.s.size ≤ 1048576) ∧ M.length ≤ 6 ∧ ∀ L : List ASet, (∀ c ∈ L, c.ok = true) → L.length ≤ 5 → ws.map (·.data.toList) = L.map setW → M = L := by
  have hO : Hid (OwnT w (.slice (some ⟨w.heap.size, 0, none⟩) 0 0) [] (w.alloc (.cells #[] 102)) ∧ SetsTo ws 0 []) := ⟨⟨World.ownsRow_made w #[] 0 (Nat.le_refl _) (Nat.zero_le _) rfl, (Below.refl _ _).alloc (Nat.le_refl _) _⟩, setsto_start _⟩
  go_enter Tryz.func77, Tryz.ntmps77
  go_wp2_with fail
  go_loopw [3, 4] (fun v0 i0 wr => ∃ (M : List ASet) (v : Value) (i : Nat), v = v0 ∧ i ≤ 6 ∧ i0 = .int .i64 i ∧ Hid (OwnT w v M wr ∧ SetsTo ws i M)) (fun _ i _ => 7 - (intOf i).toNat)
  case atStart => exact ⟨[], _, 0, rfl, by omega, rfl, hO⟩
  case round =>
    obtain ⟨M, v, i, rfl, hi6, rfl, hH⟩ := hrel
    by_cases hlt : i < ws.length
    · by_cases hi5 : (i : Int) ≤ 5
      · obtain ⟨b, o, hab, hbl, hT⟩ := (ha.keep hH.out.1.2).at hlt
        have hc := List.getElem?_eq_getElem hlt
        have hsz := hs _ (List.getElem_mem hlt)
        revert hT hc hsz
        generalize ws[i] = x
        intro hT hc hsz
        have hix : ∀ wx, (Instr.indexAt 50 (.slice a ws.length cap) (.int .i64 i)).run Tryz.prog wx = .ok (.pointer (some ⟨b, o + i, none⟩)) wx := fun wx => by
          have h := run_ixk 1 _ _ b o _ cap i wx hlt Tryz.underlying50 (Tryz.sizeOf9 wx)
          rw [Nat.mul_one] at h
          rw [hab]; exact h
        have hC : Hid (ws[i]? = some x ∧ x.size ≤ 1048576) := ⟨hc, hsz⟩
        clear hab hbl hc hsz
        go_wp2_with fail
        refine (spec_cut x 61 _ hC.out.2).mono ?_
        rintro e w2 ⟨u, p, rfl, hP, hcut⟩
        have H2 : Hid (OwnT w v M w2) := hH.out.1.next hP.2
        have hvb : Hid (∀ u, v.ownBlock = some u → u < wr.heap.size) := fun u hu => (World.ownsRow.lt hH.out.1.1 u hu).2
        have HS : Hid (SetsTo ws i M ∧ p.map (·.data.toList) = cutB 61 x.data.toList) := ⟨hH.out.2, hcut⟩
        clear hH hix hT hcut
        match p, hP, HS with
        | [], _, HS => exact absurd HS.out.2.symm (cutB_ne _ _)
        | [y], hP, HS =>
          have HN : Hid (OwnT w v M w2 ∧ SetsTo ws (i + 1) M) := ⟨H2.out, setsto_skip HS.out.1 hC.out.1 HS.out.2 (by simp)⟩
          obtain ⟨g, cp, rfl, hg, hgl, hcp, hgb⟩ := own_strs hP.1
          clear hP HS H2 hg hgl hcp hgb
          simp only [List.length_cons, List.length_nil]
          go_wp2_with fail
          go_roundw
          case rel => exact ⟨M, _, i + 1, rfl, by omega, by go_num, HN⟩
          case measure => simp [intOf]; omega
        | y :: z :: q :: r, hP, HS =>
          have HN : Hid (OwnT w v M w2 ∧ SetsTo ws (i + 1) M) := ⟨H2.out, setsto_skip HS.out.1 hC.out.1 HS.out.2 (by simp)⟩
          obtain ⟨g, cp, rfl, hg, hgl, hcp, hgb⟩ := own_strs hP.1
          have hl2 : (((r.length : Int) + 1 + 1 + 1) == 2) = false := by rw [beq_eq_false_iff_ne]; omega
          clear hP HS H2 hg hgl hcp hgb
          simp only [List.length_cons]
          go_wp2_with fail
          go_roundw
          case rel => exact ⟨M, _, i + 1, rfl, by omega, by go_num, HN⟩
          case measure => simp [intOf]; omega
        | [y, z], hP, HS =>
          obtain ⟨g, cp, rfl, hg, hgl, hcp, hgb⟩ := own_strs hP.1
          have hg0 := hg 0 y rfl
          have hg1 := hg 1 z rfl
          have hzs : z.size ≤ 1048576 := by
            have := cutB_le 61 x.data.toList z.data.toList (by rw [← HS.out.2]; simp)
            have h2 := hC.out.2
            simp at this
            omega
          clear hP hg hcp
          simp only [List.length_cons, List.length_nil]
          go_wp2_with fail
          obtain ⟨k, n, sx, rb, hrv⟩ : ∃ k n x b, readV z.data.toList = (k, n, x, b) := ⟨_, _, _, _, rfl⟩
          refine (spec_read z _ (by unfold maxLen; omega) k n sx rb hrv).mono ?_
          rintro e w3 ⟨rfl, hq⟩
          have hV : Hid (∀ u, v.ownBlock = some u → u ≠ g ∧ u ≠ w3.heap.size ∧ w.heap.size ≤ u) := fun u hu => by
            have h1 := (World.ownsRow.lt H2.out.1 u hu).1
            have h2 := hvb.out u hu
            have h3 := hq.size
            exact ⟨by omega, by omega, h1⟩
          have hg03 : w3.cell? ⟨g, 0, none⟩ = some (.string y) := by rw [(bcell hq).1 _ _ hgl]; exact hg0
          have H3 : OwnT w v M w3 := H2.out.next hq
          have HN : Hid (SetsTo ws (i + 1) (M ++ [⟨y, k, n, ⟨sx.toArray⟩⟩])) := setsto_next HS.out.1 hC.out.1 hC.out.2 HS.out.2 hrv
          have hML : M.length ≤ 6 := by have := HS.out.1.2.1; omega
          have A3 : Below w3.heap.size w3 (w3.alloc (.cells #[.int .i64 k, .int .i64 n, .string ⟨sx.toArray⟩] 26)) := (Below.refl _ _).alloc (Nat.le_refl _) _
          have hgl3 := Nat.lt_of_lt_of_le hgl hq.size
          have HO4 : Hid (OwnT w v M (w3.alloc (.cells #[.int .i64 k, .int .i64 n, .string ⟨sx.toArray⟩] 26))) := H3.next A3
          have H4 : OneV w v M g w3.heap.size y k n ⟨sx.toArray⟩ (w3.alloc (.cells #[.int .i64 k, .int .i64 n, .string ⟨sx.toArray⟩] 26)) := by
            have hbk := blk_new w3 (.cells #[.int .i64 k, .int .i64 n, .string ⟨sx.toArray⟩] 26)
            exact ⟨by rw [(bcell A3).1 _ _ hgl3]; exact hg03, cell_blk hbk rfl, cell_blk hbk rfl, cell_blk hbk rfl, Nat.lt_of_lt_of_le hgl3 A3.size, blk_lt hbk, hV.out, (H3.next A3).2⟩
          clear hq H2 hg0 hg1 hgl hrv HS hg03 H3 A3 hgl3 hV hvb
          obtain ⟨i0, hi, hz, hsz, hby⟩ := Tryz.infoT
          have hby6 : (M.length + 1) * i0.bytes ≤ 140737488355328 := by
            have : (M.length + 1) * i0.bytes ≤ 7 * 128 := Nat.mul_le_mul (by omega) hby
            omega
          have hmx : M.length + 1 ≤ maxLen := by unfold maxLen; omega
          go_wp2_with fail
          generalize w3.alloc (.cells #[.int .i64 k, .int .i64 n, .string ⟨sx.toArray⟩] 26) = w4 at *
          generalize w3.heap.size = Bv at *
          go_region_held_law (fun W => OneV w v M g Bv y k n ⟨sx.toArray⟩ W) (first | assumption | exact onev_next (by assumption) (Below.refl _ _).drew | exact onev_next (by assumption) (alloc_up _ _) | exact onev_next (onev_next (by assumption) (Below.refl _ _).drew) (alloc_up _ _))
            (first
              | (refine step_app_to (some 41) rfl rfl _ _ 23 rfl w.heap.size 102 i0 _ 4 i0.bytes Tryz.underlying23 hi hz hsz rfl rfl (by decide) v M.length (M.flatMap ASet.cells) rfl (own_up2 HO4.out) _ 1 1 [.string y, .int .i64 k, .int .i64 n, .string ⟨sx.toArray⟩] rfl rfl (new_row _ [.string y, .int .i64 k, .int .i64 n, .string ⟨sx.toArray⟩] 102) (by simp [Value.oneCell']) hmx hby6 (own_up3 HO4.out) ?_; intro v7 w7 hown7 hg7 hn7; (try simp only [Act.put, List.setIfInBounds_toArray, List.set_cons_zero, List.set_cons_succ]); have HX : Hid (OwnT w v7 (M ++ [⟨y, k, n, ⟨sx.toArray⟩⟩]) w7) := own_up4 HO4.out hown7 hg7; have hX7 := onev_grown (onev_next (onev_next H4 (Below.refl _ _).drew) (alloc_up _ (.cells #[.string y, .int .i64 k, .int .i64 n, .string ⟨sx.toArray⟩] 102))) hg7; clear hown7 hg7 hn7))
          have HF : Hid (OwnT w v7 (M ++ [⟨y, k, n, ⟨sx.toArray⟩⟩]) w7 ∧ SetsTo ws (i + 1) (M ++ [⟨y, k, n, ⟨sx.toArray⟩⟩])) := ⟨HX.out, HN.out⟩
          clear HX HN hi hz hsz hby hby6 hmx H4 HO4
          go_wp2_with fail
          go_roundw
          case rel => exact ⟨_, _, i + 1, rfl, by omega, by go_num, HF⟩
          case measure => simp [intOf]; omega
      · go_wp2_with fail
        go_ret
        have hi6' : i = 6 := by omega
        exact ⟨_, rfl, M, hH.out.1, hH.out.2.1, by have := hH.out.2.2.1; omega, setsto_end hH.out.2 (Or.inr (by omega))⟩
    · go_wp2_with fail
      go_ret
      first
        | exact ⟨_, rfl, M, hH.out.1, hH.out.2.1, by have := hH.out.2.2.1; omega, setsto_end hH.out.2 (Or.inl (by omega))⟩
        | exact ⟨_, M, rfl, hH.out.1, hH.out.2.1, by have := hH.out.2.2.1; omega, setsto_end hH.out.2 (Or.inl (by omega))⟩

end Go.Proofs.YtpcfebekkgfpjaaGreatDoor

/- The contract of spec.l5Turn at a column added, over the seat's translation. -/
namespace Go.Proofs.YtpcfebekkgfpjaaGreatDoor
open Go.RowKit

set_option maxRecDepth 100000 in
set_option maxHeartbeats 2000000 in
theorem spec_turn1 (nm : ByteArray) (g : AChg) (w : World) (hn : nm.size ≤ 3) (hok : g.c.ok = true) (htab : Tb w) (g1 : (g.kd == 1) = true) :
    Calls Tryz.prog 25 #[.string nm, .agg #[.int .i64 g.kd, .string g.nm, .string g.nw, .string g.c.nm, .int .i64 g.c.kd, .bool g.c.nd, .bool g.c.oc, .int .i64 g.c.k, .int .i64 g.c.n, .string g.c.s]] w fun e w' => ∃ y, e = .returned (.string y) ∧ y.data.toList = joinB 32 [[97, 100, 100], nm.data.toList, colW g.c] ∧ Below w.heap.size w w' := by
  have hl := col_len hok
  have A0 : Below w.heap.size w (w.alloc (.cells #[.int .i64 g.kd, .string g.nm, .string g.nw, .string g.c.nm, .int .i64 g.c.kd, .bool g.c.nd, .bool g.c.oc, .int .i64 g.c.k, .int .i64 g.c.n, .string g.c.s] 30)) := (Below.refl _ _).alloc (Nat.le_refl _) _
  have HA : Hid (Below w.heap.size w (w.alloc (.cells #[.int .i64 g.kd, .string g.nm, .string g.nw, .string g.c.nm, .int .i64 g.c.kd, .bool g.c.nd, .bool g.c.oc, .int .i64 g.c.k, .int .i64 g.c.n, .string g.c.s] 30)) ∧ Tb (w.alloc (.cells #[.int .i64 g.kd, .string g.nm, .string g.nw, .string g.c.nm, .int .i64 g.c.kd, .bool g.c.nd, .bool g.c.oc, .int .i64 g.c.k, .int .i64 g.c.n, .string g.c.s] 30))) := ⟨A0, tb_next htab A0⟩
  clear A0 htab
  go_enter Tryz.func25, Tryz.ntmps25
  go_wp2_with fail
  refine (spec_col_word g.c _ hok HA.out.2).mono ?_
  rintro e w2 ⟨y, rfl, hy, hb⟩
  have hys : y.size ≤ 20 := by
    rw [← hy] at hl
    simpa using hl
  have HY : Hid (y.data.toList = colW g.c ∧ Below w.heap.size w w2) := ⟨hy, HA.out.1.trans (hb.mono HA.out.1.size)⟩
  clear hy hb HA hl
  go_wp2_with fail
  go_ret
  exact ⟨_, rfl, by simp [joinB, HY.out.1], HY.out.2⟩

theorem spec_turn_all (x : AAct) (w : World) (hd : implDeed x = true) (hkd : x.kd = 6) (htab : Tb w) : Calls Tryz.prog 25 #[.string x.nm, .agg #[.int .i64 x.g.kd, .string x.g.nm, .string x.g.nw, .string x.g.c.nm, .int .i64 x.g.c.kd, .bool x.g.c.nd, .bool x.g.c.oc, .int .i64 x.g.c.k, .int .i64 x.g.c.n, .string x.g.c.s]] w fun e w' => ∃ y, e = .returned (.string y) ∧ y.data.toList = actT x ∧ Below w.heap.size w w' := by
  have hA : actT x = joinB 32 (if x.g.kd = 1 then [[97, 100, 100], x.nm.data.toList, colW x.g.c] else if x.g.kd = 2 then [[100, 114, 111, 112], x.nm.data.toList, x.g.nm.data.toList] else if x.g.kd = 3 then [[110, 97, 109, 101], x.nm.data.toList, x.g.nm.data.toList, x.g.nw.data.toList] else [[107, 105, 110, 100], x.nm.data.toList, x.g.nm.data.toList, kindB x.g.c.kd]) := by
    unfold actT actW
    simp only [hkd, Int.reduceEq, if_false]
  rw [hA]
  unfold implDeed at hd
  simp only [hkd, Int.reduceEq, if_false, if_true] at hd
  by_cases g1 : x.g.kd = 1
  · simp only [g1, if_true, Bool.and_eq_true] at hd
    rw [if_pos g1]
    exact spec_turn1 x.nm x.g w (name_le hd.1) hd.2 htab (by simp [g1])
  by_cases g2 : x.g.kd = 2
  · simp only [g2, Int.reduceEq, if_false, if_true, Bool.and_eq_true] at hd
    rw [if_neg g1, if_pos g2]
    exact spec_turn2 x.nm x.g w (name_le hd.1) (name_le hd.2) (by simp [g2])
  by_cases g3 : x.g.kd = 3
  · simp only [g3, Int.reduceEq, if_false, if_true, Bool.and_eq_true] at hd
    rw [if_neg g1, if_neg g2, if_pos g3]
    exact spec_turn3 x.nm x.g w (name_le hd.1) (name_le hd.2.1) (name_le hd.2.2) (by simp [g3])
  by_cases g4 : x.g.kd = 4
  · simp only [g4, Int.reduceEq, if_false, if_true, Bool.and_eq_true] at hd
    rw [if_neg g1, if_neg g2, if_neg g3]
    exact spec_turn4 x.nm x.g w (name_le hd.1) (name_le hd.2.1) hd.2.2 htab (by simp [g4])
  · simp [g1, g2, g3, g4] at hd

set_option maxRecDepth 100000 in
set_option maxHeartbeats 4000000 in
theorem stext6 (x : AAct) (a0 a1 : Option Addr) (c0 c1 : Nat) (w : World) (hT : ActAt w a0 a1 x) (hf : x.fit) (hok : specAct x = true) (hd : implDeed x = true) (htab : Tb w) (hkd : (x.kd == 6) = true) :
    Calls Tryz.prog 8 #[.agg #[.int .i64 x.kd, .string x.nm, .int .i64 x.id, .slice a0 x.sets.length c0, .slice a1 x.cols.length c1, .int .i64 x.g.kd, .string x.g.nm, .string x.g.nw, .string x.g.c.nm, .int .i64 x.g.c.kd, .bool x.g.c.nd, .bool x.g.c.oc, .int .i64 x.g.c.k, .int .i64 x.g.c.n, .string x.g.c.s, .string x.l.fr, .string x.l.co, .string x.l.tt, .int .i64 x.l.hw]] w fun e w' => ∃ y, e = .returned (.string y) ∧ y.data.toList = actT x ∧ Below w.heap.size w w' := by
  have k1 : (x.kd == 1) = false := by simp [beq_iff_eq.1 hkd]
  have k2 : (x.kd == 2) = false := by simp [beq_iff_eq.1 hkd]
  have k3 : (x.kd == 3) = false := by simp [beq_iff_eq.1 hkd]
  have k4 : (x.kd == 4) = false := by simp [beq_iff_eq.1 hkd]
  have k5 : (x.kd == 5) = false := by simp [beq_iff_eq.1 hkd]
  have k6 : (x.kd == 6) = true := by simp [beq_iff_eq.1 hkd]
  have HS : Hid (DeedIn w x a0 c0 a1 c1 (w.alloc (.cells #[.int .i64 x.kd, .string x.nm, .int .i64 x.id, .slice a0 x.sets.length c0, .slice a1 x.cols.length c1, .int .i64 x.g.kd, .string x.g.nm, .string x.g.nw, .string x.g.c.nm, .int .i64 x.g.c.kd, .bool x.g.c.nd, .bool x.g.c.oc, .int .i64 x.g.c.k, .int .i64 x.g.c.n, .string x.g.c.s, .string x.l.fr, .string x.l.co, .string x.l.tt, .int .i64 x.l.hw] 34))) := DeedIn.start x a0 a1 c0 c1 w hT
  have hR : (w.alloc (.cells #[.int .i64 x.kd, .string x.nm, .int .i64 x.id, .slice a0 x.sets.length c0, .slice a1 x.cols.length c1, .int .i64 x.g.kd, .string x.g.nm, .string x.g.nw, .string x.g.c.nm, .int .i64 x.g.c.kd, .bool x.g.c.nd, .bool x.g.c.oc, .int .i64 x.g.c.k, .int .i64 x.g.c.n, .string x.g.c.s, .string x.l.fr, .string x.l.co, .string x.l.tt, .int .i64 x.l.hw] 34)).rangeAt w.heap.size 0 [.int .i64 x.kd, .string x.nm, .int .i64 x.id, .slice a0 x.sets.length c0, .slice a1 x.cols.length c1, .int .i64 x.g.kd, .string x.g.nm, .string x.g.nw, .string x.g.c.nm, .int .i64 x.g.c.kd, .bool x.g.c.nd, .bool x.g.c.oc, .int .i64 x.g.c.k, .int .i64 x.g.c.n, .string x.g.c.s, .string x.l.fr, .string x.l.co, .string x.l.tt, .int .i64 x.l.hw] := HS.out.1.1
  have HF : Hid (x.fit ∧ Tb w ∧ implDeed x = true) := ⟨hf, htab, hd⟩
  have HOK : Hid (specAct x = true) := hok
  clear hT hf hok hd htab
  go_enter Tryz.func8, Tryz.ntmps8
  go_wp2_with (refine ld_act rfl _ rfl _ rfl _ hR rfl ?_)
  refine (spec_act x a0 a1 c0 c1 _ HS.out.2 HF.out.1).mono ?_
  rintro e w1 ⟨rfl, hb⟩
  rw [HOK.out]
  have HS1 : Hid (DeedIn w x a0 c0 a1 c1 w1) := HS.out.next hb
  have HB1 : Hid (Below w.heap.size w w1) := (alloc_up w _).trans (hb.mono (alloc_up w _).size)
  clear hb HS hR
  have y0 := HS1.out.1.1 0 _ rfl
  have y1 := HS1.out.1.1 1 _ rfl
  have y5 := HS1.out.1.1 5 _ rfl
  have y6 := HS1.out.1.1 6 _ rfl
  have y7 := HS1.out.1.1 7 _ rfl
  have y8 := HS1.out.1.1 8 _ rfl
  have y9 := HS1.out.1.1 9 _ rfl
  have y10 := HS1.out.1.1 10 _ rfl
  have y11 := HS1.out.1.1 11 _ rfl
  have y12 := HS1.out.1.1 12 _ rfl
  have y13 := HS1.out.1.1 13 _ rfl
  have y14 := HS1.out.1.1 14 _ rfl
  have HT1 : Hid (Tb w1) := tb_next HF.out.2.1 HB1.out
  go_wp2_with fail
  refine (spec_turn_all x _ HF.out.2.2 (beq_iff_eq.1 hkd) HT1.out).mono ?_
  rintro e w2 ⟨y, rfl, hy, hb⟩
  have HY : Hid (y.data.toList = actT x ∧ Below w.heap.size w w2) := ⟨hy, HB1.out.trans (hb.mono HB1.out.size)⟩
  clear hy hb
  go_wp2_with fail
  go_ret
  exact ⟨_, rfl, HY.out.1, HY.out.2⟩

end Go.Proofs.YtpcfebekkgfpjaaGreatDoor
