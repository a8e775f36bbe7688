/- The contracts of impl.colWord and impl.valueWord at what is right, over the seat's translation. -/
import Derived.Test.YtpcfebekkgfpjaaGreatDoorG11
import Derived.Test.YtpcfebekkgfpjaaGreatDoorAcI2
import Derived.Maps.AppendAt
import Derived.OwnWalk
namespace Go.Proofs.YtpcfebekkgfpjaaGreatDoor
open Go.RowKit

abbrev Tb (w : World) : Prop := Lib.TabIs Tryz.prog w "internal/strconv.uint64pow10" .u64 Lib.pow10Tab
theorem tb_next {w w' : World} (h : Tb w) (hb : Below w.heap.size w w') : Tb w' := Joins.tab_stays Tab.global h hb (Nat.le_refl _)

theorem name_le {s : ByteArray} (h : nameOk s = true) : s.size ≤ 3 := by
  simp only [nameOk, Bool.and_eq_true, decide_eq_true_eq] at h
  exact h.2.2
theorem val_le {k n : Int} {s : ByteArray} (h : valOk k n s = true) : s.size ≤ 4 := by
  rcases ok_kind h with rfl | rfl | rfl
  · rw [(ok_none h).2]; decide
  · rw [(ok_num h).1]; decide
  · have := (ok_text h).2
    simp only [textOk, Bool.and_eq_true, decide_eq_true_eq] at this
    exact this.2

theorem textV_le (k n : Int) (s : ByteArray) (hs : s.size ≤ 5) : (textV k n s).length ≤ 7 := by
  unfold textV
  cases hok : valOk k n s
  · simp
  · rw [if_pos rfl]
    split
    · simp
    · split
      · rename_i h0 h1
        subst h1
        have hr : -999 ≤ n ∧ n ≤ 999 := by simp [valOk] at hok; simpa [numOk] using hok.2
        have hd : ∀ u, (decL u).length ≤ 3 := by intro u; unfold decL; split <;> (try split) <;> simp
        by_cases hn : n < 0
        · rw [itoa_neg hn hr.1]; have := hd n.natAbs; simp; omega
        · rw [itoa_pos (by omega) hr.2]; have := hd n.toNat; omega
      · simp; omega
theorem word_text (k n : Int) (s : ByteArray) (h : s.size ≤ 5) : ∃ t : ByteArray, t.size ≤ 7 ∧ t.data.toList = textV k n s ∧ t = ⟨(textV k n s).toArray⟩ := ⟨⟨(textV k n s).toArray⟩, by show (textV k n s).toArray.size ≤ 7; have := textV_le k n s h; simpa using this, by simp, rfl⟩
theorem box7 {W : World} {B : Nat} {v0 v1 v2 v3 v4 v5 v6 : Value} (h : W.rangeAt B 0 [v0, v1, v2, v3, v4, v5, v6]) : W.cell? ⟨B, 0, none⟩ = some v0 ∧ W.cell? ⟨B, 1, none⟩ = some v1 ∧ W.cell? ⟨B, 2, none⟩ = some v2 ∧ W.cell? ⟨B, 3, none⟩ = some v3 ∧ W.cell? ⟨B, 4, none⟩ = some v4 ∧ W.cell? ⟨B, 5, none⟩ = some v5 ∧ W.cell? ⟨B, 6, none⟩ = some v6 := ⟨h 0 _ rfl, h 1 _ rfl, h 2 _ rfl, h 3 _ rfl, h 4 _ rfl, h 5 _ rfl, h 6 _ rfl⟩

/-- A box of values lies in W, the table too, and W lies over w. -/
def WordS (w : World) (cs : List Value) (W : World) : Prop := BoxL w w.heap.size cs W ∧ Tb W
theorem WordS.next {w : World} {cs : List Value} {W W' : World} (h : WordS w cs W) (hb : Below W.heap.size W W') : WordS w cs W' := ⟨h.1.next hb, tb_next h.2 hb⟩
theorem WordS.start (w : World) (cs : List Value) (t : TypeId) (h : Tb w) : WordS w cs (w.alloc (.cells cs.toArray t)) := ⟨BoxL.start _ _ _, tb_next h ((Below.refl _ _).alloc (Nat.le_refl _) _)⟩

set_option maxRecDepth 100000 in
set_option maxHeartbeats 2000000 in
theorem value_word (c : ASet) (w : World) (hok : c.ok = true) (htab : Tb w) :
    Calls Tryz.prog 239 #[.agg #[.string c.nm, .int .i64 c.k, .int .i64 c.n, .string c.s]] w fun e w' => ∃ y, e = .returned (.string y) ∧ y.data.toList = setW c ∧ Below w.heap.size w w' := by
  have h1 : nameOk c.nm = true ∧ valOk c.k c.n c.s = true := by simpa [ASet.ok] using hok
  have hs : c.s.size ≤ maxLen := by have := val_le h1.2; unfold maxLen; omega
  have hn := name_le h1.1
  obtain ⟨x, hx, hX, hE⟩ := word_text c.k c.n c.s (by have := val_le h1.2; omega)
  have HX : Hid (x.data.toList = textV c.k c.n c.s) := hX
  have HS : Hid (WordS w [.string c.nm, .int .i64 c.k, .int .i64 c.n, .string c.s] (w.alloc (.cells #[.string c.nm, .int .i64 c.k, .int .i64 c.n, .string c.s] 102))) := WordS.start _ _ _ htab
  have inh : Nonempty (Over (WordS w [.string c.nm, .int .i64 c.k, .int .i64 c.n, .string c.s])) := ⟨⟨_, HS.out⟩⟩
  have g0 : ∀ p : Over (WordS w [.string c.nm, .int .i64 c.k, .int .i64 c.n, .string c.s]), p.W.cell? ⟨w.heap.size, 0, none⟩ = some (.string c.nm) ∧ p.W.cell? ⟨w.heap.size, 1, none⟩ = some (.int .i64 c.k) ∧ p.W.cell? ⟨w.heap.size, 2, none⟩ = some (.int .i64 c.n) ∧ p.W.cell? ⟨w.heap.size, 3, none⟩ = some (.string c.s) := fun p => box4 p.ok.1.1
  have hcon : ∀ p : Over (WordS w [.string c.nm, .int .i64 c.k, .int .i64 c.n, .string c.s]), Calls Tryz.prog 226 #[.agg #[.int .i64 c.k, .int .i64 c.n, .string c.s]] p.W fun e w' => e = .returned (.string x) ∧ Below p.W.heap.size p.W w' := fun p => by rw [hE]; exact impl_text c.k c.n c.s p.W hs p.ok.2
  clear htab hok h1 hs hE hX
  go_enter Tryz.func239, Tryz.ntmps239
  go_wp2_with fail
  refine wp_region_over (S := WordS w [.string c.nm, .int .i64 c.k, .int .i64 c.n, .string c.s]) (by kernel_rfl) (by kernel_rfl) (HS.out.next (Below.refl _ _).drew) ?_
  repeat (go_big_quiet_step (exact over_call (hcon _) (fun _ h => WordS.next (Over.ok _) h)))
  refine wpQuiet_nil ?_
  rintro wq ⟨pp, hp⟩
  have hZ := pp.ok
  rw [← hp] at hZ
  have hK : Hid (Below w.heap.size w wq) := hZ.1.2.2
  clear hp pp g0 inh hZ hcon HS
  go_wp2_with fail
  go_ret
  exact ⟨_, rfl, by simp [setW, HX.out], hK.out⟩

theorem kindS_le (k : Int) : (kindS k).size ≤ 4 := by
  unfold kindS
  split
  · decide
  · split <;> decide

set_option maxRecDepth 100000 in
set_option maxHeartbeats 2000000 in
theorem col_word (c : ACol) (w : World) (hok : c.ok = true) (htab : Tb w) :
    Calls Tryz.prog 224 #[.agg #[.string c.nm, .int .i64 c.kd, .bool c.nd, .bool c.oc, .int .i64 c.k, .int .i64 c.n, .string c.s]] w fun e w' => ∃ y, e = .returned (.string y) ∧ y.data.toList = colW c ∧ Below w.heap.size w w' := by
  have h1 : nameOk c.nm = true ∧ valOk c.k c.n c.s = true := by
    simp only [ACol.ok, colOk, Bool.and_eq_true] at hok
    exact ⟨hok.1, hok.2.2.1⟩
  have hs : Hid (c.s.size ≤ maxLen) := by show _ ≤ maxLen; have := val_le h1.2; unfold maxLen; omega
  have hn := name_le h1.1
  have hk := kindS_le c.kd
  obtain ⟨x, hx, hX, hE⟩ := word_text c.k c.n c.s (by have := val_le h1.2; omega)
  have HX : Hid (x.data.toList = textV c.k c.n c.s ∧ x = ⟨(textV c.k c.n c.s).toArray⟩) := ⟨hX, hE⟩
  have HS : Hid (WordS w [.string c.nm, .int .i64 c.kd, .bool c.nd, .bool c.oc, .int .i64 c.k, .int .i64 c.n, .string c.s] (w.alloc (.cells #[.string c.nm, .int .i64 c.kd, .bool c.nd, .bool c.oc, .int .i64 c.k, .int .i64 c.n, .string c.s] 28))) := WordS.start _ _ _ htab
  have inh : Nonempty (Over (WordS w [.string c.nm, .int .i64 c.kd, .bool c.nd, .bool c.oc, .int .i64 c.k, .int .i64 c.n, .string c.s])) := ⟨⟨_, HS.out⟩⟩
  have g0 : ∀ p : Over (WordS w [.string c.nm, .int .i64 c.kd, .bool c.nd, .bool c.oc, .int .i64 c.k, .int .i64 c.n, .string c.s]), p.W.cell? ⟨w.heap.size, 0, none⟩ = some (.string c.nm) ∧ p.W.cell? ⟨w.heap.size, 1, none⟩ = some (.int .i64 c.kd) ∧ p.W.cell? ⟨w.heap.size, 2, none⟩ = some (.bool c.nd) ∧ p.W.cell? ⟨w.heap.size, 3, none⟩ = some (.bool c.oc) ∧ p.W.cell? ⟨w.heap.size, 4, none⟩ = some (.int .i64 c.k) ∧ p.W.cell? ⟨w.heap.size, 5, none⟩ = some (.int .i64 c.n) ∧ p.W.cell? ⟨w.heap.size, 6, none⟩ = some (.string c.s) := fun p => box7 p.ok.1.1
  have hcon : ∀ p : Over (WordS w [.string c.nm, .int .i64 c.kd, .bool c.nd, .bool c.oc, .int .i64 c.k, .int .i64 c.n, .string c.s]), Calls Tryz.prog 96 #[.int .i64 c.kd] p.W fun e w' => e = .returned (.string (kindS c.kd)) ∧ Below p.W.heap.size p.W w' := fun p => (kind_word c.kd p.W).mono fun _ _ ⟨he, hw⟩ => ⟨he, hw ▸ Below.refl _ _⟩
  clear htab hok h1 hE hX
  go_enter Tryz.func224, Tryz.ntmps224
  go_wp2_with fail
  refine wp_region_over (S := WordS w [.string c.nm, .int .i64 c.kd, .bool c.nd, .bool c.oc, .int .i64 c.k, .int .i64 c.n, .string c.s]) (by kernel_rfl) (by kernel_rfl) (HS.out.next (Below.refl _ _).drew) ?_
  repeat (go_big_quiet_step (exact over_call (hcon _) (fun _ h => WordS.next (Over.ok _) h)))
  refine wpQuiet_nil ?_
  rintro wq ⟨pp, hp⟩
  have hZ := pp.ok
  rw [← hp] at hZ
  have HZ : Hid (WordS w [.string c.nm, .int .i64 c.kd, .bool c.nd, .bool c.oc, .int .i64 c.k, .int .i64 c.n, .string c.s] wq) := hZ
  have y1 := box7 hZ.1.1
  clear hp pp g0 inh hZ hcon HS
  cases hnd : c.nd <;> cases hoc : c.oc <;> cases hk0 : (c.k == 0)
  all_goals
    have q0 : (c.k != 0) = !(c.k == 0) := rfl
    rw [hk0] at q0
    simp only [Bool.not_false, Bool.not_true] at q0
    go_wp2_with (go_at_call 226; refine (impl_text c.k c.n c.s _ hs.out HZ.out.2).mono ?_; rw [← HX.out.2]; rintro e w2 ⟨rfl, hb⟩; have HB : Hid (Below w.heap.size w w2) := HZ.out.1.2.2.trans (hb.mono HZ.out.1.2.2.size); clear hb)
    go_ret
    first
      | (refine ⟨_, rfl, ?_, HB.out⟩
         simp [colW, kindB, hnd, hoc, beq_eq_false_iff_ne.1 hk0, HX.out.1]
         done)
      | (refine ⟨_, rfl, ?_, HZ.out.1.2.2⟩
         simp [colW, kindB, hnd, hoc, beq_iff_eq.1 hk0])

end Go.Proofs.YtpcfebekkgfpjaaGreatDoor

/- The contracts of impl.each at columns and at values told that are right, over the seat's translation. -/
namespace Go.Proofs.YtpcfebekkgfpjaaGreatDoor
open Go.RowKit

theorem own_keep {W W' : World} {base : Nat} {e : TypeId} {size : Nat} {v : Value} {n : Nat} {xs : List Value} (h : W.ownsRow base e size v n xs) (hb : Below W.heap.size W W') : W'.ownsRow base e size v n xs := by
  refine ⟨h.1, ?_⟩
  rcases h.2 with h2 | ⟨g, cap, cur, hv, hg, hh, hr⟩
  · exact Or.inl h2
  · have hlt : g < W.heap.size := by
      rcases Nat.lt_or_ge g W.heap.size with h | h
      · exact h
      · rw [Array.getElem?_eq_none h] at hh; cases hh
    exact Or.inr ⟨g, cap, cur, hv, hg, by rw [hb.block g hlt]; exact hh, hr⟩
theorem own_base {W : World} {base : Nat} {e : TypeId} {size : Nat} {v : Value} {n : Nat} {xs : List Value} (h : W.ownsRow base e size v n xs) : ∀ k, v.ownBlock = some k → base ≤ k := by
  intro k hk
  rcases h.2 with ⟨rfl, _⟩ | ⟨g, cap, cur, rfl, hg, _⟩
  · cases hk
  · simp [Value.ownBlock] at hk
    omega
/-- A list of texts of the call's own, and W lies over w. -/
def OwnS (w : World) (v : Value) (ws : List ByteArray) (W : World) : Prop := W.ownsRow w.heap.size 9 1 v ws.length (ws.map Value.string) ∧ Below w.heap.size w W
theorem OwnS.next {w : World} {v : Value} {ws : List ByteArray} {W W' : World} (h : OwnS w v ws W) (hb : Below W.heap.size W W') : OwnS w v ws W' := ⟨own_keep h.1 hb, h.2.trans (hb.mono h.2.size)⟩
theorem OwnS.nil (w : World) : OwnS w (.slice none 0 0) [] w := ⟨World.ownsRow_nil w _ _ _, Below.refl _ _⟩
theorem Tryz.infoS : ∃ i, Tryz.prog.info? 9 = some i ∧ i.zero = some (.string ⟨#[]⟩) ∧ i.size = 1 ∧ i.bytes ≤ 128 := by
  have h : (Tryz.prog.info? 9).map (fun i => (i.zero, i.size, decide (i.bytes ≤ 128))) = some (some (.string ⟨#[]⟩), 1, true) := by kernel_rfl
  obtain ⟨i, hi, he⟩ := Option.map_eq_some_iff.1 h
  simp only [Prod.mk.injEq, decide_eq_true_eq] at he
  exact ⟨i, hi, he.1, he.2.1, he.2.2⟩
theorem new_one (w : World) (y : Value) (t : TypeId) : ∀ (j : Nat) u, [y][j]? = some u → (w.alloc (.cells #[y] t)).cell? ((⟨w.heap.size, 0, none⟩ : Addr).add j) = some u := fun j u hu => by
  rw [Addr.add_mid]
  exact range_box w [y] t j u hu

set_option maxRecDepth 100000 in
set_option maxHeartbeats 2000000 in
theorem each_cols (a : Option Addr) (cap : Nat) (L : List ACol) (w : World) (ha : ColsAt w a L) (hok : ∀ c ∈ L, c.ok = true) (hm : L.length ≤ 5) (htab : Tb w) :
    Calls Tryz.prog 223 #[.slice a L.length cap, .func (.func 224) #[] #[]] w fun e w' => ∃ v ws, e = .returned v ∧ OwnS w v ws w' ∧ ws.map (·.data.toList) = L.map colW := by
  have HT : Hid (Tb w) := htab
  clear htab
  go_enter Tryz.func223, Tryz.ntmps223
  go_wp2_with fail
  go_loopw [5, 10] (fun v0 i wr => ∃ (k : Nat) (ws : List ByteArray) (v : Value), v = v0 ∧ k ≤ L.length ∧ i = .int .i64 k ∧ Hid (OwnS w v ws wr ∧ ws.length = k ∧ ws.map (·.data.toList) = (L.take k).map colW)) (fun _ i _ => L.length - (intOf i).toNat)
  case atStart => exact ⟨0, [], _, rfl, Nat.zero_le _, rfl, ⟨OwnS.nil w, rfl, rfl⟩⟩
  case round =>
    obtain ⟨k, ws, v, rfl, hk, rfl, hH⟩ := hrel
    by_cases hlt : k < L.length
    · obtain ⟨b, o, hab, hbl, hr⟩ := (ha.keep hH.out.1.2).at hlt
      have hc := List.getElem?_eq_getElem hlt
      have hck := hok _ (List.getElem_mem hlt)
      revert hr hc hck
      generalize L[k] = c
      intro hr hc hck
      have hix : ∀ wx, (Instr.indexAt 24 (.slice a L.length cap) (.int .i64 k)).run Tryz.prog wx = .ok (.pointer (some ⟨b, o + k * 7, none⟩)) wx := fun wx => by
        rw [hab]; exact run_ix _ _ _ _ _ _ _ wx hlt Tryz.underlying24 (Tryz.sizeOf28 wx)
      have hT := cells7_of hr
      have H1 : Hid (Below wr.heap.size wr (wr.alloc (.cells #[.string c.nm, .int .i64 c.kd, .bool c.nd, .bool c.oc, .int .i64 c.k, .int .i64 c.n, .string c.s] 28))) := (Below.refl _ _).alloc (Nat.le_refl _) _
      have hC : Hid (L[k]? = some c ∧ c.ok = true) := ⟨hc, hck⟩
      clear hab hr ha hbl hc hck hok
      go_wp2_with fail
      refine (col_word c _ hC.out.2 (tb_next (tb_next HT.out hH.out.1.2) H1.out)).mono ?_
      rintro e w2 ⟨y, rfl, hy, hq⟩
      have H2 : Hid (OwnS w v ws w2) := (hH.out.1.next H1.out).next hq
      have B3 : Hid (Below w2.heap.size w2 (w2.alloc (.cells #[.string y] 9))) := (Below.refl _ _).alloc (Nat.le_refl _) _
      have hown : (w2.alloc (.cells #[.string y] 9)).ownsRow w.heap.size 9 1 v ws.length (ws.map Value.string) := (H2.out.next B3.out).1
      have hbs : w.heap.size ≤ (w2.alloc (.cells #[.string y] 9)).heap.size := (H2.out.next B3.out).2.size
      have hnews := new_one w2 (.string y) 9
      obtain ⟨i0, hi, hz, hsz, hby⟩ := Tryz.infoS
      have hl : ws.length + 1 ≤ 5 := by have := hH.out.2.1; omega
      have hby6 : (ws.length + 1) * i0.bytes ≤ 140737488355328 := by
        have : (ws.length + 1) * i0.bytes ≤ 5 * 128 := Nat.mul_le_mul hl hby
        omega
      have HY : Hid (y.data.toList = colW c ∧ ws.length = k ∧ ws.map (·.data.toList) = (L.take k).map colW) := ⟨hy, hH.out.2.1, hH.out.2.2⟩
      clear hq hy hT H1 hH
      go_wp2_with (at_builtin; refine wpList_append_own_at _ rfl _ _ 50 rfl w.heap.size 9 i0 _ 1 i0.bytes Tryz.underlying50 hi hz hsz rfl rfl (by decide) _ ws.length (ws.map Value.string) rfl hown ⟨w2.heap.size, 0, none⟩ 1 1 [.string y] rfl rfl hnews (by simp [Value.oneCell']) (by unfold maxLen; omega) hby6 hbs ?_; intro v' w7 hown7 hgrow hnil hloc)
      have h7 : OwnS w v' (ws ++ [y]) w7 := ⟨by simpa using hown7, (H2.out.next B3.out).2.grown hgrow hbs (own_base hown)⟩
      have h8 : (ws ++ [y]).map (·.data.toList) = (L.take (k + 1)).map colW := by
        obtain ⟨hk2, rfl⟩ := List.getElem?_eq_some_iff.1 hC.out.1
        rw [List.take_succ_eq_append_getElem hk2, List.map_append, List.map_append, HY.out.2.2, List.map_singleton, List.map_singleton, HY.out.1]
      have HF : Hid (OwnS w v' (ws ++ [y]) w7 ∧ (ws ++ [y]).length = k + 1 ∧ (ws ++ [y]).map (·.data.toList) = (L.take (k + 1)).map colW) := (⟨h7, by simp [HY.out.2.1], h8⟩ : _ ∧ _ ∧ _)
      clear h7 h8
      clear hown7 hgrow hnil hloc hown hbs hnews hi hz hsz hby hby6 H2 B3
      go_wp2_with fail
      go_roundw
      case rel => exact ⟨k + 1, _, _, rfl, by omega, by go_num, HF⟩
      case measure => simp [intOf]; omega
    · have hkl : k = L.length := by omega
      subst hkl
      go_wp2_with fail
      go_ret
      exact ⟨_, ws, rfl, hH.out.1, by rw [hH.out.2.2, List.take_length]⟩

set_option maxRecDepth 100000 in
set_option maxHeartbeats 2000000 in
theorem each_sets (a : Option Addr) (cap : Nat) (L : List ASet) (w : World) (ha : SetsAt w a L) (hok : ∀ c ∈ L, c.ok = true) (hm : L.length ≤ 5) (htab : Tb w) :
    Calls Tryz.prog 238 #[.slice a L.length cap, .func (.func 239) #[] #[]] w fun e w' => ∃ v ws, e = .returned v ∧ OwnS w v ws w' ∧ ws.map (·.data.toList) = L.map setW := by
  have HT : Hid (Tb w) := htab
  clear htab
  go_enter Tryz.func238, Tryz.ntmps238
  go_wp2_with fail
  go_loopw [5, 10] (fun v0 i wr => ∃ (k : Nat) (ws : List ByteArray) (v : Value), v = v0 ∧ k ≤ L.length ∧ i = .int .i64 k ∧ Hid (OwnS w v ws wr ∧ ws.length = k ∧ ws.map (·.data.toList) = (L.take k).map setW)) (fun _ i _ => L.length - (intOf i).toNat)
  case atStart => exact ⟨0, [], _, rfl, Nat.zero_le _, rfl, ⟨OwnS.nil w, rfl, rfl⟩⟩
  case round =>
    obtain ⟨k, ws, v, rfl, hk, rfl, hH⟩ := hrel
    by_cases hlt : k < L.length
    · obtain ⟨b, o, hab, hbl, hr⟩ := (ha.keep hH.out.1.2).at hlt
      have hc := List.getElem?_eq_getElem hlt
      have hck := hok _ (List.getElem_mem hlt)
      revert hr hc hck
      generalize L[k] = c
      intro hr hc hck
      have hix : ∀ wx, (Instr.indexAt 23 (.slice a L.length cap) (.int .i64 k)).run Tryz.prog wx = .ok (.pointer (some ⟨b, o + k * 4, none⟩)) wx := fun wx => by
        rw [hab]; exact run_ixk 4 _ _ _ _ _ _ _ wx hlt Tryz.underlying23 (Tryz.sizeOf102 wx)
      have hT := cellsS_of hr
      have H1 : Hid (Below wr.heap.size wr (wr.alloc (.cells #[.string c.nm, .int .i64 c.k, .int .i64 c.n, .string c.s] 102))) := (Below.refl _ _).alloc (Nat.le_refl _) _
      have hC : Hid (L[k]? = some c ∧ c.ok = true) := ⟨hc, hck⟩
      clear hab hr ha hbl hc hck hok
      go_wp2_with fail
      refine (value_word c _ hC.out.2 (tb_next (tb_next HT.out hH.out.1.2) H1.out)).mono ?_
      rintro e w2 ⟨y, rfl, hy, hq⟩
      have H2 : Hid (OwnS w v ws w2) := (hH.out.1.next H1.out).next hq
      have B3 : Hid (Below w2.heap.size w2 (w2.alloc (.cells #[.string y] 9))) := (Below.refl _ _).alloc (Nat.le_refl _) _
      have hown : (w2.alloc (.cells #[.string y] 9)).ownsRow w.heap.size 9 1 v ws.length (ws.map Value.string) := (H2.out.next B3.out).1
      have hbs : w.heap.size ≤ (w2.alloc (.cells #[.string y] 9)).heap.size := (H2.out.next B3.out).2.size
      have hnews := new_one w2 (.string y) 9
      obtain ⟨i0, hi, hz, hsz, hby⟩ := Tryz.infoS
      have hl : ws.length + 1 ≤ 5 := by have := hH.out.2.1; omega
      have hby6 : (ws.length + 1) * i0.bytes ≤ 140737488355328 := by
        have : (ws.length + 1) * i0.bytes ≤ 5 * 128 := Nat.mul_le_mul hl hby
        omega
      have HY : Hid (y.data.toList = setW c ∧ ws.length = k ∧ ws.map (·.data.toList) = (L.take k).map setW) := ⟨hy, hH.out.2.1, hH.out.2.2⟩
      clear hq hy hT H1 hH
      go_wp2_with (at_builtin; refine wpList_append_own_at _ rfl _ _ 50 rfl w.heap.size 9 i0 _ 1 i0.bytes Tryz.underlying50 hi hz hsz rfl rfl (by decide) _ ws.length (ws.map Value.string) rfl hown ⟨w2.heap.size, 0, none⟩ 1 1 [.string y] rfl rfl hnews (by simp [Value.oneCell']) (by unfold maxLen; omega) hby6 hbs ?_; intro v' w7 hown7 hgrow hnil hloc)
      have h7 : OwnS w v' (ws ++ [y]) w7 := ⟨by simpa using hown7, (H2.out.next B3.out).2.grown hgrow hbs (own_base hown)⟩
      have h8 : (ws ++ [y]).map (·.data.toList) = (L.take (k + 1)).map setW := by
        obtain ⟨hk2, rfl⟩ := List.getElem?_eq_some_iff.1 hC.out.1
        rw [List.take_succ_eq_append_getElem hk2, List.map_append, List.map_append, HY.out.2.2, List.map_singleton, List.map_singleton, HY.out.1]
      have HF : Hid (OwnS w v' (ws ++ [y]) w7 ∧ (ws ++ [y]).length = k + 1 ∧ (ws ++ [y]).map (·.data.toList) = (L.take (k + 1)).map setW) := (⟨h7, by simp [HY.out.2.1], h8⟩ : _ ∧ _ ∧ _)
      clear h7 h8
      clear hown7 hgrow hnil hloc hown hbs hnews hi hz hsz hby hby6 H2 B3
      go_wp2_with fail
      go_roundw
      case rel => exact ⟨k + 1, _, _, rfl, by omega, by go_num, HF⟩
      case measure => simp [intOf]; omega
    · have hkl : k = L.length := by omega
      subst hkl
      go_wp2_with fail
      go_ret
      exact ⟨_, ws, rfl, hH.out.1, by rw [hH.out.2.2, List.take_length]⟩

end Go.Proofs.YtpcfebekkgfpjaaGreatDoor
