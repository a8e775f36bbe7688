/- The contract of the method words of what is set, over the seat's translation. -/
import Derived.Test.YtpcfebekkgfpjaaGreatDoorG13
import Derived.Test.YtpcfebekkgfpjaaGreatDoorG11
import Derived.Lib.IndexMore
import Derived.Lib.SplitLaws
import Derived.Lib.Join
import Derived.Test.YtpcfebekkgfpjaaGreatDoorShelf
namespace Go.Proofs.YtpcfebekkgfpjaaGreatDoor
open Go.RowKit

theorem map_three {x y z : ByteArray} {ws : List ByteArray} {M : List Bs} (h : ws.map (·.data.toList) = M) : ([x, y, z] ++ ws).map (·.data.toList) = x.data.toList :: y.data.toList :: z.data.toList :: M := by rw [← h]; rfl
theorem len_three {x y z : ByteArray} {ws : List ByteArray} (h : ws.length ≤ 5) : [x, y, z].length + ws.length ≤ 20 := by show 3 + ws.length ≤ 20; omega
theorem new_ltp (W : World) (o : Obj) : W.heap.size < (W.alloc o).heap.size := by simp

/-- A box of 3 values, a list that it holds, the table, and W lies over w. -/
abbrev SD (w : World) (v0 v1 v2 : Value) (a : Option Addr) (L : List ASet) (W : World) : Prop := W.cell? ⟨w.heap.size, 0, none⟩ = some v0 ∧ W.cell? ⟨w.heap.size, 1, none⟩ = some v1 ∧ W.cell? ⟨w.heap.size, 2, none⟩ = some v2 ∧ BoxL w w.heap.size [v0, v1, v2] W ∧ Tb W ∧ SetsAt W a L
theorem SD.of {w : World} {v0 v1 v2 : Value} {a : Option Addr} {L : List ASet} {W : World} (h : BoxL w w.heap.size [v0, v1, v2] W) (ht : Tb W) (hl : SetsAt W a L) : SD w v0 v1 v2 a L W := ⟨(box3 h.1).1, (box3 h.1).2.1, (box3 h.1).2.2, h, ht, hl⟩
theorem SD.next {w : World} {v0 v1 v2 : Value} {a : Option Addr} {L : List ASet} {W W' : World} (h : SD w v0 v1 v2 a L W) (hb : Below W.heap.size W W') : SD w v0 v1 v2 a L W' := SD.of (h.2.2.2.1.next hb) (tb_next h.2.2.2.2.1 hb) (h.2.2.2.2.2.keep hb)

set_option maxRecDepth 100000 in
set_option maxHeartbeats 4000000 in
theorem setd_words (nm : ByteArray) (id : Int) (a : Option Addr) (cap : Nat) (L : List ASet) (w : World) (hL : SetsAt w a L) (hok : ∀ c ∈ L, c.ok = true) (hm : L.length ≤ 5) (hi0 : 0 ≤ id) (hi1 : id ≤ 60) (htab : Tb w) : Calls Tryz.prog 245 #[.agg #[.string nm, .int .i64 id, .slice a L.length cap]] w fun e w' => ∃ v, e = .returned v ∧ WordsAt w v ([115, 101, 116] :: nm.data.toList :: Lib.itoa id :: L.map setW) w' := by
  have b0 : Below w.heap.size w (w.alloc (.cells #[.string nm, .int .i64 id, .slice a L.length cap] 89)) := (Below.refl _ _).alloc (Nat.le_refl _) _
  have h0 : SD w (.string nm) (.int .i64 id) (.slice a L.length cap) a L (w.alloc (.cells #[.string nm, .int .i64 id, .slice a L.length cap] 89)) := SD.of (BoxL.start _ _ _) (tb_next htab b0) (hL.keep b0)
  clear htab hL b0
  go_enter Tryz.func245, Tryz.ntmps245
  go_wp2_with fail
  generalize w.alloc (.cells #[.string nm, .int .i64 id, .slice a L.length cap] 89) = W0 at *
  first | (go_region_held3 (fun W => SD w (.string nm) (.int .i64 id) (.slice a L.length cap) a L W) (first | assumption | exact SD.next (by assumption) (Below.refl _ _).drew | exact SD.next (by assumption) ((Below.refl _ _).alloc (Nat.le_refl _) _))
    (first
      | (go_at_call 238; have hS := ‹SD w (.string nm) (.int .i64 id) (.slice a L.length cap) a L _›; refine (each_sets a cap L _ hS.2.2.2.2.2 hok hm hS.2.2.2.2.1).mono ?_; rintro e w6 ⟨v6, ws, rfl, hO6, hw6⟩; have hC6 := SD.next hS hO6.2; have hl6 : ws.length ≤ 5 := Nat.le_trans (Nat.le_of_eq (len_map hw6)) hm; clear hS)
      | (go_at_call 133; have hS := ‹SD w (.string nm) (.int .i64 id) (.slice a L.length cap) a L _›; refine (itoa_call id _ hi0 hi1 hS.2.2.2.2.1).mono ?_; rintro e w4 ⟨rfl, hq4⟩; have hC4 := SD.next hS hq4; have hO4 := own_keep hO6.1 hq4; clear hS)
      | (go_at_call 133; have hS := ‹SD w (.string nm) (.int .i64 id) (.slice a L.length cap) a L _›; refine (itoa_call id _ hi0 hi1 hS.2.2.2.2.1).mono ?_; rintro e w4 ⟨rfl, hq4⟩; have hC4 := SD.next hS hq4; clear hS)
      | (refine step_words (some 12) rfl rfl _ _ rfl w4.heap.size [(⟨#[115, 101, 116]⟩ : ByteArray), nm, (⟨(Lib.itoa id).toArray⟩ : ByteArray)] ws v6 rfl rfl (range_box w4 ([(⟨#[115, 101, 116]⟩ : ByteArray), nm, (⟨(Lib.itoa id).toArray⟩ : ByteArray)].map Value.string) 9) (by simp) (own_keep hO4 ((Below.refl _ _).alloc (Nat.le_refl _) _)) (len_three hl6) ?_; intro v' w7 h7 hb7; have hC7 := SD.next (SD.next hC4 ((Below.refl _ _).alloc (Nat.le_refl _) _)) hb7; (try simp only [Act.put, List.setIfInBounds_toArray, List.set_cons_zero, List.set_cons_succ]); have HW : Hid (WordsAt w v' ([115, 101, 116] :: nm.data.toList :: Lib.itoa id :: L.map setW) w7) := words_of h7 (map_three hw6) hC7.2.2.2.1.2.2; clear h7 hb7 hO6 hC6 hw6 hl6 hC4 hq4)
      | (refine step_words (some 12) rfl rfl _ _ rfl w6.heap.size [(⟨#[115, 101, 116]⟩ : ByteArray), nm, (⟨(Lib.itoa id).toArray⟩ : ByteArray)] ws v6 rfl rfl (range_box w6 ([(⟨#[115, 101, 116]⟩ : ByteArray), nm, (⟨(Lib.itoa id).toArray⟩ : ByteArray)].map Value.string) 9) (by simp) (own_keep hO6.1 ((Below.refl _ _).alloc (Nat.le_refl _) _)) (len_three hl6) ?_; intro v' w7 h7 hb7; have hC7 := SD.next (SD.next hC6 ((Below.refl _ _).alloc (Nat.le_refl _) _)) hb7; (try simp only [Act.put, List.setIfInBounds_toArray, List.set_cons_zero, List.set_cons_succ]); have HW : Hid (WordsAt w v' ([115, 101, 116] :: nm.data.toList :: Lib.itoa id :: L.map setW) w7) := words_of h7 (map_three hw6) hC7.2.2.2.1.2.2; clear h7 hb7 hO6 hC6 hw6 hl6 hC4 hq4)
      | (refine step_words (some 12) rfl rfl _ _ rfl w4.heap.size [(⟨#[115, 101, 116]⟩ : ByteArray), nm, (⟨(Lib.itoa id).toArray⟩ : ByteArray)] ws v6 rfl rfl (range_next (W := w4.alloc (.cells ([(⟨#[115, 101, 116]⟩ : ByteArray), nm, (⟨(Lib.itoa id).toArray⟩ : ByteArray)].map Value.string).toArray 9)) (range_box w4 ([(⟨#[115, 101, 116]⟩ : ByteArray), nm, (⟨(Lib.itoa id).toArray⟩ : ByteArray)].map Value.string) 9) (new_ltp w4 _) hO6.2) (Nat.lt_of_lt_of_le (new_ltp w4 _) hO6.2.size) hO6.1 (len_three hl6) ?_; intro v' w7 h7 hb7; have hC7 := SD.next hC6 hb7; (try simp only [Act.put, List.setIfInBounds_toArray, List.set_cons_zero, List.set_cons_succ]); have HW : Hid (WordsAt w v' ([115, 101, 116] :: nm.data.toList :: Lib.itoa id :: L.map setW) w7) := words_of h7 (map_three hw6) hC7.2.2.2.1.2.2; clear h7 hb7 hO6 hC6 hw6 hl6 hC4 hq4))) | fail
  all_goals
    clear hC7
    go_wp2_with fail
    go_ret
    exact ⟨_, rfl, HW.out⟩

end Go.Proofs.YtpcfebekkgfpjaaGreatDoor

/- The library's cutting and joining, in the words of ArM: plain facts, no program in them. -/
namespace Go.Proofs.YtpcfebekkgfpjaaGreatDoor
open Go.RowKit

theorem join_lib : ∀ ws : List Bs, Lib.join ws [32] = joinB 32 ws
  | [] => rfl
  | [w] => by simp [Lib.join, List.intercalate, joinB]
  | w :: v :: ws => by
    have h := join_lib (v :: ws)
    simp only [Lib.join, List.intercalate] at h
    simp only [Lib.join, List.intercalate, joinB, List.intersperse, List.flatten_cons] at h ⊢
    rw [← h]
    rfl
theorem index_at (c : UInt8) : ∀ (a b : Bs), c ∉ a → Lib.index (a ++ c :: b) [c] = a.length
  | [], b, _ => by simp [Lib.index]
  | x :: a, b, h => by
    have hx : ¬ c = x := fun e => h (by simp [e])
    have ha : c ∉ a := fun e => h (by simp [e])
    have hi := index_at c a b ha
    show Lib.index (x :: (a ++ c :: b)) [c] = _
    unfold Lib.index
    rw [hi]
    simp [hx]
theorem index_no (c : UInt8) : ∀ (a : Bs), c ∉ a → Lib.index a [c] = -1
  | [], _ => by simp [Lib.index]
  | x :: a, h => by
    have hx : ¬ c = x := fun e => h (by simp [e])
    have ha : c ∉ a := fun e => h (by simp [e])
    have hi := index_no c a ha
    unfold Lib.index
    rw [hi]
    simp [hx]
theorem cut_at {c : UInt8} {a b : Bs} (h : c ∉ a) : Lib.cut (a ++ c :: b) [c] = (a, b, true) := by
  unfold Lib.cut
  rw [index_at c a b h]
  simp
theorem cut_no {c : UInt8} {a : Bs} (h : c ∉ a) : Lib.cut a [c] = (a, [], false) := by
  unfold Lib.cut
  rw [index_no c a h]
  simp
theorem parted {c : UInt8} : ∀ {l : Bs}, c ∈ l → ∃ a b, l = a ++ c :: b ∧ c ∉ a
  | [], h => by simp at h
  | x :: l, h => by
    by_cases hx : c = x
    · exact ⟨[], l, by simp [hx], by simp⟩
    · obtain ⟨a, b, e, ha⟩ := parted (l := l) (by simpa [hx] using h)
      exact ⟨x :: a, b, by simp [e], by simp [hx, ha]⟩
/-- The library's cutting at all of one byte is ours. -/
theorem split_lib (c : UInt8) : ∀ (k : Nat) (l : Bs), l.count c ≤ k → Lib.splitK [c] 0 k l = cutB c l
  | 0, l, h => by
    have hn : c ∉ l := fun hc => by have := List.count_pos_iff.2 hc; omega
    rw [cutB_none hn]
    rfl
  | k + 1, l, h => by
    by_cases hc : c ∈ l
    · obtain ⟨a, b, rfl, ha⟩ := parted hc
      have hb : b.count c ≤ k := by
        rw [List.count_append, List.count_cons_self] at h
        omega
      have hi := index_at c a b ha
      unfold Lib.splitK
      rw [hi, if_neg (by simp), cutB_at b ha, ← split_lib c k b hb]
      simp
    · unfold Lib.splitK
      rw [index_no c l hc, cutB_none hc]
      simp
theorem split_bytes (c : UInt8) (s : ByteArray) : (Lib.splitB ⟨#[c]⟩ 0 (Lib.countB s ⟨#[c]⟩) s).map (·.data.toList) = cutB c s.data.toList := by
  rw [Lib.splitB_data]
  refine split_lib c _ _ ?_
  show _ ≤ Lib.count s.data.toList [c]
  rw [Lib.count_one]
  exact Nat.le_refl _

end Go.Proofs.YtpcfebekkgfpjaaGreatDoor

/- The contract of impl.deedText at each kind of what is done, over the seat's translation. -/
namespace Go.Proofs.YtpcfebekkgfpjaaGreatDoor
open Go.RowKit

theorem words_few {ws : List ByteArray} {L : List Bs} (h : ws.map (·.data.toList) = L) (hn : L.length ≤ 20) : ws.length ≤ 140737488355328 := by
  have := congrArg List.length h
  rw [List.length_map] at this
  omega
theorem words_short {ws : List ByteArray} {L : List Bs} (h : ws.map (·.data.toList) = L) (hj : (joinB 32 L).length ≤ 1000) : (Lib.join (ws.map (·.data.toList)) (⟨#[32]⟩ : ByteArray).data.toList).length ≤ 140737488355328 := by
  rw [h]
  show (Lib.join L [32]).length ≤ _
  rw [join_lib]
  omega
theorem words_join {ws : List ByteArray} {L : List Bs} (h : ws.map (·.data.toList) = L) : (⟨(Lib.join (ws.map (·.data.toList)) (⟨#[32]⟩ : ByteArray).data.toList).toArray⟩ : ByteArray).data.toList = joinB 32 L := by
  rw [h, ← join_lib]

theorem m_table_words (nm : ByteArray) (a : Option Addr) (cap : Nat) (L : List ACol) (w : World) : (method 517 83 (.agg #[.string nm, .slice a L.length cap]) "loop.example/custumal/impl.words").run Tryz.prog w = .ok (219, .agg #[.string nm, .slice a L.length cap]) w := by kernel_rfl
set_option maxRecDepth 100000 in
set_option maxHeartbeats 1000000 in
theorem text_table (nm : ByteArray) (a : Option Addr) (cap : Nat) (L : List ACol) (w : World) (hL : ColsAt w a L) (hok : ∀ c ∈ L, c.ok = true) (hm5 : L.length ≤ 5) (htab : Tb w) (hn : ([116, 97, 98, 108, 101] :: nm.data.toList :: L.map colW).length ≤ 20) (hj : (joinB 32 ([116, 97, 98, 108, 101] :: nm.data.toList :: L.map colW)).length ≤ 1000) :
    Calls Tryz.prog 18 #[.iface 83 (.agg #[.string nm, .slice a L.length cap])] w fun e w' => ∃ y, e = .returned (.string y) ∧ y.data.toList = joinB 32 ([116, 97, 98, 108, 101] :: nm.data.toList :: L.map colW) ∧ Below w.heap.size w w' := by
  have hm := m_table_words nm a cap L
  have HJ : Hid (([116, 97, 98, 108, 101] :: nm.data.toList :: L.map colW).length ≤ 20 ∧ (joinB 32 ([116, 97, 98, 108, 101] :: nm.data.toList :: L.map colW)).length ≤ 1000) := ⟨hn, hj⟩
  clear hn hj
  go_enter Tryz.func18, Tryz.ntmps18
  go_wp2_with fail
  refine (table_words nm a cap L _ hL hok hm5 htab).mono ?_
  rintro e w1 ⟨v, rfl, g, cap, ws, rfl, hc, hcells, hg, hL, hb⟩
  clear hm
  go_wp2_with fail
  refine (Tryz.strings_Join g 0 cap ws ⟨#[32]⟩ _ hcells hg (words_few hL HJ.out.1) hc (words_short hL HJ.out.2)).mono ?_
  rintro e w2 ⟨rfl, hb2⟩
  have HB : Hid (Below w.heap.size w w2) := hb.trans (hb2.mono hb.size)
  have HL : Hid (ws.map (·.data.toList) = [116, 97, 98, 108, 101] :: nm.data.toList :: L.map colW) := hL
  clear hb hb2 hcells hc hg hL
  go_wp2_with fail
  go_ret
  exact ⟨_, rfl, words_join HL.out, HB.out⟩

theorem m_link_words (l : ALnk) (w : World) : (method 517 85 (.agg #[.string l.fr, .string l.co, .string l.tt, .int .i64 l.hw]) "loop.example/custumal/impl.words").run Tryz.prog w = .ok (232, .agg #[.string l.fr, .string l.co, .string l.tt, .int .i64 l.hw]) w := by kernel_rfl
set_option maxRecDepth 100000 in
set_option maxHeartbeats 1000000 in
theorem text_link (l : ALnk) (w : World)  (htab : Tb w) (hn : ([[108, 105, 110, 107], l.fr.data.toList, l.co.data.toList, l.tt.data.toList, howB l.hw]).length ≤ 20) (hj : (joinB 32 ([[108, 105, 110, 107], l.fr.data.toList, l.co.data.toList, l.tt.data.toList, howB l.hw])).length ≤ 1000) :
    Calls Tryz.prog 18 #[.iface 85 (.agg #[.string l.fr, .string l.co, .string l.tt, .int .i64 l.hw])] w fun e w' => ∃ y, e = .returned (.string y) ∧ y.data.toList = joinB 32 ([[108, 105, 110, 107], l.fr.data.toList, l.co.data.toList, l.tt.data.toList, howB l.hw]) ∧ Below w.heap.size w w' := by
  have hm := m_link_words l
  have HJ : Hid (([[108, 105, 110, 107], l.fr.data.toList, l.co.data.toList, l.tt.data.toList, howB l.hw]).length ≤ 20 ∧ (joinB 32 ([[108, 105, 110, 107], l.fr.data.toList, l.co.data.toList, l.tt.data.toList, howB l.hw])).length ≤ 1000) := ⟨hn, hj⟩
  clear hn hj
  go_enter Tryz.func18, Tryz.ntmps18
  go_wp2_with fail
  refine (link_words l _ htab).mono ?_
  rintro e w1 ⟨v, rfl, g, cap, ws, rfl, hc, hcells, hg, hL, hb⟩
  clear hm
  go_wp2_with fail
  refine (Tryz.strings_Join g 0 cap ws ⟨#[32]⟩ _ hcells hg (words_few hL HJ.out.1) hc (words_short hL HJ.out.2)).mono ?_
  rintro e w2 ⟨rfl, hb2⟩
  have HB : Hid (Below w.heap.size w w2) := hb.trans (hb2.mono hb.size)
  have HL : Hid (ws.map (·.data.toList) = [[108, 105, 110, 107], l.fr.data.toList, l.co.data.toList, l.tt.data.toList, howB l.hw]) := hL
  clear hb hb2 hcells hc hg hL
  go_wp2_with fail
  go_ret
  exact ⟨_, rfl, words_join HL.out, HB.out⟩

theorem m_put_words (nm : ByteArray) (a : Option Addr) (cap : Nat) (L : List ASet) (w : World) : (method 517 87 (.agg #[.string nm, .slice a L.length cap]) "loop.example/custumal/impl.words").run Tryz.prog w = .ok (236, .agg #[.string nm, .slice a L.length cap]) w := by kernel_rfl
set_option maxRecDepth 100000 in
set_option maxHeartbeats 1000000 in
theorem text_put (nm : ByteArray) (a : Option Addr) (cap : Nat) (L : List ASet) (w : World) (hL : SetsAt w a L) (hok : ∀ c ∈ L, c.ok = true) (hm5 : L.length ≤ 5) (htab : Tb w) (hn : ([112, 117, 116] :: nm.data.toList :: L.map setW).length ≤ 20) (hj : (joinB 32 ([112, 117, 116] :: nm.data.toList :: L.map setW)).length ≤ 1000) :
    Calls Tryz.prog 18 #[.iface 87 (.agg #[.string nm, .slice a L.length cap])] w fun e w' => ∃ y, e = .returned (.string y) ∧ y.data.toList = joinB 32 ([112, 117, 116] :: nm.data.toList :: L.map setW) ∧ Below w.heap.size w w' := by
  have hm := m_put_words nm a cap L
  have HJ : Hid (([112, 117, 116] :: nm.data.toList :: L.map setW).length ≤ 20 ∧ (joinB 32 ([112, 117, 116] :: nm.data.toList :: L.map setW)).length ≤ 1000) := ⟨hn, hj⟩
  clear hn hj
  go_enter Tryz.func18, Tryz.ntmps18
  go_wp2_with fail
  refine (put_words nm a cap L _ hL hok hm5 htab).mono ?_
  rintro e w1 ⟨v, rfl, g, cap, ws, rfl, hc, hcells, hg, hL, hb⟩
  clear hm
  go_wp2_with fail
  refine (Tryz.strings_Join g 0 cap ws ⟨#[32]⟩ _ hcells hg (words_few hL HJ.out.1) hc (words_short hL HJ.out.2)).mono ?_
  rintro e w2 ⟨rfl, hb2⟩
  have HB : Hid (Below w.heap.size w w2) := hb.trans (hb2.mono hb.size)
  have HL : Hid (ws.map (·.data.toList) = [112, 117, 116] :: nm.data.toList :: L.map setW) := hL
  clear hb hb2 hcells hc hg hL
  go_wp2_with fail
  go_ret
  exact ⟨_, rfl, words_join HL.out, HB.out⟩

theorem m_setd_words (nm : ByteArray) (id : Int) (a : Option Addr) (cap : Nat) (L : List ASet) (w : World) : (method 517 89 (.agg #[.string nm, .int .i64 id, .slice a L.length cap]) "loop.example/custumal/impl.words").run Tryz.prog w = .ok (245, .agg #[.string nm, .int .i64 id, .slice a L.length cap]) w := by kernel_rfl
set_option maxRecDepth 100000 in
set_option maxHeartbeats 1000000 in
theorem text_setd (nm : ByteArray) (id : Int) (a : Option Addr) (cap : Nat) (L : List ASet) (w : World) (hL : SetsAt w a L) (hok : ∀ c ∈ L, c.ok = true) (hm5 : L.length ≤ 5) (hi0 : 0 ≤ id) (hi1 : id ≤ 60) (htab : Tb w) (hn : ([115, 101, 116] :: nm.data.toList :: Lib.itoa id :: L.map setW).length ≤ 20) (hj : (joinB 32 ([115, 101, 116] :: nm.data.toList :: Lib.itoa id :: L.map setW)).length ≤ 1000) :
    Calls Tryz.prog 18 #[.iface 89 (.agg #[.string nm, .int .i64 id, .slice a L.length cap])] w fun e w' => ∃ y, e = .returned (.string y) ∧ y.data.toList = joinB 32 ([115, 101, 116] :: nm.data.toList :: Lib.itoa id :: L.map setW) ∧ Below w.heap.size w w' := by
  have hm := m_setd_words nm id a cap L
  have HJ : Hid (([115, 101, 116] :: nm.data.toList :: Lib.itoa id :: L.map setW).length ≤ 20 ∧ (joinB 32 ([115, 101, 116] :: nm.data.toList :: Lib.itoa id :: L.map setW)).length ≤ 1000) := ⟨hn, hj⟩
  clear hn hj
  go_enter Tryz.func18, Tryz.ntmps18
  go_wp2_with fail
  refine (setd_words nm id a cap L _ hL hok hm5 hi0 hi1 htab).mono ?_
  rintro e w1 ⟨v, rfl, g, cap, ws, rfl, hc, hcells, hg, hL, hb⟩
  clear hm
  go_wp2_with fail
  refine (Tryz.strings_Join g 0 cap ws ⟨#[32]⟩ _ hcells hg (words_few hL HJ.out.1) hc (words_short hL HJ.out.2)).mono ?_
  rintro e w2 ⟨rfl, hb2⟩
  have HB : Hid (Below w.heap.size w w2) := hb.trans (hb2.mono hb.size)
  have HL : Hid (ws.map (·.data.toList) = [115, 101, 116] :: nm.data.toList :: Lib.itoa id :: L.map setW) := hL
  clear hb hb2 hcells hc hg hL
  go_wp2_with fail
  go_ret
  exact ⟨_, rfl, words_join HL.out, HB.out⟩

theorem m_off_words (nm : ByteArray) (id : Int) (w : World) : (method 517 91 (.agg #[.string nm, .int .i64 id]) "loop.example/custumal/impl.words").run Tryz.prog w = .ok (250, .agg #[.string nm, .int .i64 id]) w := by kernel_rfl
set_option maxRecDepth 100000 in
set_option maxHeartbeats 1000000 in
theorem text_off (nm : ByteArray) (id : Int) (w : World) (hi0 : 0 ≤ id) (hi1 : id ≤ 60) (htab : Tb w) (hn : ([[111, 102, 102], nm.data.toList, Lib.itoa id]).length ≤ 20) (hj : (joinB 32 ([[111, 102, 102], nm.data.toList, Lib.itoa id])).length ≤ 1000) :
    Calls Tryz.prog 18 #[.iface 91 (.agg #[.string nm, .int .i64 id])] w fun e w' => ∃ y, e = .returned (.string y) ∧ y.data.toList = joinB 32 ([[111, 102, 102], nm.data.toList, Lib.itoa id]) ∧ Below w.heap.size w w' := by
  have hm := m_off_words nm id
  have HJ : Hid (([[111, 102, 102], nm.data.toList, Lib.itoa id]).length ≤ 20 ∧ (joinB 32 ([[111, 102, 102], nm.data.toList, Lib.itoa id])).length ≤ 1000) := ⟨hn, hj⟩
  clear hn hj
  go_enter Tryz.func18, Tryz.ntmps18
  go_wp2_with fail
  refine (off_words nm id _ hi0 hi1 htab).mono ?_
  rintro e w1 ⟨v, rfl, g, cap, ws, rfl, hc, hcells, hg, hL, hb⟩
  clear hm
  go_wp2_with fail
  refine (Tryz.strings_Join g 0 cap ws ⟨#[32]⟩ _ hcells hg (words_few hL HJ.out.1) hc (words_short hL HJ.out.2)).mono ?_
  rintro e w2 ⟨rfl, hb2⟩
  have HB : Hid (Below w.heap.size w w2) := hb.trans (hb2.mono hb.size)
  have HL : Hid (ws.map (·.data.toList) = [[111, 102, 102], nm.data.toList, Lib.itoa id]) := hL
  clear hb hb2 hcells hc hg hL
  go_wp2_with fail
  go_ret
  exact ⟨_, rfl, words_join HL.out, HB.out⟩

theorem m_add_words (nm : ByteArray) (c : ACol) (w : World) : (method 517 105 (.agg #[.string nm, .string c.nm, .int .i64 c.kd, .bool c.nd, .bool c.oc, .int .i64 c.k, .int .i64 c.n, .string c.s]) "loop.example/custumal/impl.words").run Tryz.prog w = .ok (254, .agg #[.string nm, .string c.nm, .int .i64 c.kd, .bool c.nd, .bool c.oc, .int .i64 c.k, .int .i64 c.n, .string c.s]) w := by kernel_rfl
set_option maxRecDepth 100000 in
set_option maxHeartbeats 1000000 in
theorem text_add (nm : ByteArray) (c : ACol) (w : World) (hok : c.ok = true) (htab : Tb w) (hn : ([[97, 100, 100], nm.data.toList, colW c]).length ≤ 20) (hj : (joinB 32 ([[97, 100, 100], nm.data.toList, colW c])).length ≤ 1000) :
    Calls Tryz.prog 18 #[.iface 105 (.agg #[.string nm, .string c.nm, .int .i64 c.kd, .bool c.nd, .bool c.oc, .int .i64 c.k, .int .i64 c.n, .string c.s])] w fun e w' => ∃ y, e = .returned (.string y) ∧ y.data.toList = joinB 32 ([[97, 100, 100], nm.data.toList, colW c]) ∧ Below w.heap.size w w' := by
  have hm := m_add_words nm c
  have HJ : Hid (([[97, 100, 100], nm.data.toList, colW c]).length ≤ 20 ∧ (joinB 32 ([[97, 100, 100], nm.data.toList, colW c])).length ≤ 1000) := ⟨hn, hj⟩
  clear hn hj
  go_enter Tryz.func18, Tryz.ntmps18
  go_wp2_with fail
  refine (add_words nm c _ hok htab).mono ?_
  rintro e w1 ⟨v, rfl, g, cap, ws, rfl, hc, hcells, hg, hL, hb⟩
  clear hm
  go_wp2_with fail
  refine (Tryz.strings_Join g 0 cap ws ⟨#[32]⟩ _ hcells hg (words_few hL HJ.out.1) hc (words_short hL HJ.out.2)).mono ?_
  rintro e w2 ⟨rfl, hb2⟩
  have HB : Hid (Below w.heap.size w w2) := hb.trans (hb2.mono hb.size)
  have HL : Hid (ws.map (·.data.toList) = [[97, 100, 100], nm.data.toList, colW c]) := hL
  clear hb hb2 hcells hc hg hL
  go_wp2_with fail
  go_ret
  exact ⟨_, rfl, words_join HL.out, HB.out⟩

theorem m_drop_words (nm co : ByteArray) (w : World) : (method 517 107 (.agg #[.string nm, .string co]) "loop.example/custumal/impl.words").run Tryz.prog w = .ok (259, .agg #[.string nm, .string co]) w := by kernel_rfl
set_option maxRecDepth 100000 in
set_option maxHeartbeats 1000000 in
theorem text_drop (nm co : ByteArray) (w : World)  (hn : ([[100, 114, 111, 112], nm.data.toList, co.data.toList]).length ≤ 20) (hj : (joinB 32 ([[100, 114, 111, 112], nm.data.toList, co.data.toList])).length ≤ 1000) :
    Calls Tryz.prog 18 #[.iface 107 (.agg #[.string nm, .string co])] w fun e w' => ∃ y, e = .returned (.string y) ∧ y.data.toList = joinB 32 ([[100, 114, 111, 112], nm.data.toList, co.data.toList]) ∧ Below w.heap.size w w' := by
  have hm := m_drop_words nm co
  have HJ : Hid (([[100, 114, 111, 112], nm.data.toList, co.data.toList]).length ≤ 20 ∧ (joinB 32 ([[100, 114, 111, 112], nm.data.toList, co.data.toList])).length ≤ 1000) := ⟨hn, hj⟩
  clear hn hj
  go_enter Tryz.func18, Tryz.ntmps18
  go_wp2_with fail
  refine (drop_words nm co _).mono ?_
  rintro e w1 ⟨v, rfl, g, cap, ws, rfl, hc, hcells, hg, hL, hb⟩
  clear hm
  go_wp2_with fail
  refine (Tryz.strings_Join g 0 cap ws ⟨#[32]⟩ _ hcells hg (words_few hL HJ.out.1) hc (words_short hL HJ.out.2)).mono ?_
  rintro e w2 ⟨rfl, hb2⟩
  have HB : Hid (Below w.heap.size w w2) := hb.trans (hb2.mono hb.size)
  have HL : Hid (ws.map (·.data.toList) = [[100, 114, 111, 112], nm.data.toList, co.data.toList]) := hL
  clear hb hb2 hcells hc hg hL
  go_wp2_with fail
  go_ret
  exact ⟨_, rfl, words_join HL.out, HB.out⟩

theorem m_named_words (nm co tt : ByteArray) (w : World) : (method 517 109 (.agg #[.string nm, .string co, .string tt]) "loop.example/custumal/impl.words").run Tryz.prog w = .ok (263, .agg #[.string nm, .string co, .string tt]) w := by kernel_rfl
set_option maxRecDepth 100000 in
set_option maxHeartbeats 1000000 in
theorem text_named (nm co tt : ByteArray) (w : World)  (hn : ([[110, 97, 109, 101], nm.data.toList, co.data.toList, tt.data.toList]).length ≤ 20) (hj : (joinB 32 ([[110, 97, 109, 101], nm.data.toList, co.data.toList, tt.data.toList])).length ≤ 1000) :
    Calls Tryz.prog 18 #[.iface 109 (.agg #[.string nm, .string co, .string tt])] w fun e w' => ∃ y, e = .returned (.string y) ∧ y.data.toList = joinB 32 ([[110, 97, 109, 101], nm.data.toList, co.data.toList, tt.data.toList]) ∧ Below w.heap.size w w' := by
  have hm := m_named_words nm co tt
  have HJ : Hid (([[110, 97, 109, 101], nm.data.toList, co.data.toList, tt.data.toList]).length ≤ 20 ∧ (joinB 32 ([[110, 97, 109, 101], nm.data.toList, co.data.toList, tt.data.toList])).length ≤ 1000) := ⟨hn, hj⟩
  clear hn hj
  go_enter Tryz.func18, Tryz.ntmps18
  go_wp2_with fail
  refine (named_words nm co tt _).mono ?_
  rintro e w1 ⟨v, rfl, g, cap, ws, rfl, hc, hcells, hg, hL, hb⟩
  clear hm
  go_wp2_with fail
  refine (Tryz.strings_Join g 0 cap ws ⟨#[32]⟩ _ hcells hg (words_few hL HJ.out.1) hc (words_short hL HJ.out.2)).mono ?_
  rintro e w2 ⟨rfl, hb2⟩
  have HB : Hid (Below w.heap.size w w2) := hb.trans (hb2.mono hb.size)
  have HL : Hid (ws.map (·.data.toList) = [[110, 97, 109, 101], nm.data.toList, co.data.toList, tt.data.toList]) := hL
  clear hb hb2 hcells hc hg hL
  go_wp2_with fail
  go_ret
  exact ⟨_, rfl, words_join HL.out, HB.out⟩

theorem m_kindd_words (nm co : ByteArray) (k : Int) (w : World) : (method 517 111 (.agg #[.string nm, .string co, .int .i64 k]) "loop.example/custumal/impl.words").run Tryz.prog w = .ok (267, .agg #[.string nm, .string co, .int .i64 k]) w := by kernel_rfl
set_option maxRecDepth 100000 in
set_option maxHeartbeats 1000000 in
theorem text_kindd (nm co : ByteArray) (k : Int) (w : World)  (htab : Tb w) (hn : ([[107, 105, 110, 100], nm.data.toList, co.data.toList, kindB k]).length ≤ 20) (hj : (joinB 32 ([[107, 105, 110, 100], nm.data.toList, co.data.toList, kindB k])).length ≤ 1000) :
    Calls Tryz.prog 18 #[.iface 111 (.agg #[.string nm, .string co, .int .i64 k])] w fun e w' => ∃ y, e = .returned (.string y) ∧ y.data.toList = joinB 32 ([[107, 105, 110, 100], nm.data.toList, co.data.toList, kindB k]) ∧ Below w.heap.size w w' := by
  have hm := m_kindd_words nm co k
  have HJ : Hid (([[107, 105, 110, 100], nm.data.toList, co.data.toList, kindB k]).length ≤ 20 ∧ (joinB 32 ([[107, 105, 110, 100], nm.data.toList, co.data.toList, kindB k])).length ≤ 1000) := ⟨hn, hj⟩
  clear hn hj
  go_enter Tryz.func18, Tryz.ntmps18
  go_wp2_with fail
  refine (kindd_words nm co k _ htab).mono ?_
  rintro e w1 ⟨v, rfl, g, cap, ws, rfl, hc, hcells, hg, hL, hb⟩
  clear hm
  go_wp2_with fail
  refine (Tryz.strings_Join g 0 cap ws ⟨#[32]⟩ _ hcells hg (words_few hL HJ.out.1) hc (words_short hL HJ.out.2)).mono ?_
  rintro e w2 ⟨rfl, hb2⟩
  have HB : Hid (Below w.heap.size w w2) := hb.trans (hb2.mono hb.size)
  have HL : Hid (ws.map (·.data.toList) = [[107, 105, 110, 100], nm.data.toList, co.data.toList, kindB k]) := hL
  clear hb hb2 hcells hc hg hL
  go_wp2_with fail
  go_ret
  exact ⟨_, rfl, words_join HL.out, HB.out⟩

end Go.Proofs.YtpcfebekkgfpjaaGreatDoor
