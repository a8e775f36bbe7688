/- The contract of spec.l10Cut, over the seat's translation. -/
import Derived.Test.YtpcfebekkgfpjaaGreatDoorG18
namespace Go.Proofs.YtpcfebekkgfpjaaGreatDoor
open Go.RowKit

/-- A text cut so far: the pieces ws, and from where the next one begins. -/
def CutAt (c : UInt8) (l : Bs) (ws : List ByteArray) (f i : Nat) : Prop :=
  (i ≤ l.length ∧ f ≤ i ∧ cutB c l = ws.map (·.data.toList) ++ cutB c (l.drop f) ∧ c ∉ (l.drop f).take (i - f) ∧ ws.length ≤ f) ∨ (i = l.length + 1 ∧ cutB c l = ws.map (·.data.toList) ∧ ws.length ≤ i)
theorem cutat_start (c : UInt8) (l : Bs) : CutAt c l [] 0 0 := Or.inl ⟨Nat.zero_le _, Nat.le_refl _, rfl, by simp, Nat.le_refl _⟩
theorem cutat_end {c : UInt8} {l : Bs} {ws : List ByteArray} {f : Nat} {x : ByteArray} (h : CutAt c l ws f l.length) (hx : x.data.toList = (l.drop f).take (l.length - f)) : CutAt c l (ws ++ [x]) (l.length + 1) (l.length + 1) := by
  rcases h with ⟨_, h2, h3, h4, h5⟩ | ⟨h1, _⟩
  · refine Or.inr ⟨rfl, ?_, by rw [List.length_append, List.length_singleton]; omega⟩
    have e : (l.drop f).take (l.length - f) = l.drop f := List.take_of_length_le (by rw [List.length_drop]; exact Nat.le_refl _)
    rw [e] at h4 hx
    rw [h3, cutB_none h4, List.map_append, List.map_singleton, hx]
  · omega
theorem cutat_hit {c : UInt8} {l : Bs} {ws : List ByteArray} {f i : Nat} {x : ByteArray} (h : CutAt c l ws f i) (hi : i < l.length) (hc : l[i] = c) (hx : x.data.toList = (l.drop f).take (i - f)) : CutAt c l (ws ++ [x]) (i + 1) (i + 1) := by
  rcases h with ⟨_, h2, h3, h4, h5⟩ | ⟨h1, _⟩
  · refine Or.inl ⟨hi, Nat.le_refl _, ?_, by simp, by rw [List.length_append, List.length_singleton]; omega⟩
    have e : l.drop f = (l.drop f).take (i - f) ++ c :: l.drop (i + 1) := by
      conv => lhs; rw [← List.take_append_drop (i - f) (l.drop f)]
      rw [List.drop_drop, show f + (i - f) = i by omega, List.drop_eq_getElem_cons hi, hc]
    rw [h3, e, cutB_at _ h4, List.map_append, List.map_singleton, hx]
    simp
  · omega
theorem cutat_miss {c : UInt8} {l : Bs} {ws : List ByteArray} {f i : Nat} (h : CutAt c l ws f i) (hi : i < l.length) (hc : ¬ l[i] = c) : CutAt c l ws f (i + 1) := by
  rcases h with ⟨_, h2, h3, h4, h5⟩ | ⟨h1, _⟩
  · refine Or.inl ⟨hi, by omega, h3, ?_, h5⟩
    rw [show i + 1 - f = (i - f) + 1 by omega, List.take_succ_eq_append_getElem (by rw [List.length_drop]; omega), List.mem_append, not_or]
    refine ⟨h4, ?_⟩
    rw [List.mem_singleton, List.getElem_drop]
    simp only [show f + (i - f) = i by omega]
    exact fun e => hc e.symm
  · omega

set_option maxRecDepth 100000 in
set_option maxHeartbeats 2000000 in
theorem spec_cut (s : ByteArray) (c : UInt8) (w : World) (hs : s.size ≤ 1048576) :
    Calls Tryz.prog 37 #[.string s, .int .u8 c.toNat] w fun e w' => ∃ v ws, e = .returned v ∧ OwnS w v ws w' ∧ ws.map (·.data.toList) = cutB c s.data.toList := by
  have hc8 := c.toNat_lt
  go_enter Tryz.func37, Tryz.ntmps37
  go_wp2_with fail
  have hO : Hid (OwnS w (.slice (some ⟨w.heap.size, 0, none⟩) 0 0) [] (w.alloc (.cells #[] 9)) ∧ CutAt c s.data.toList [] 0 0) := ⟨⟨World.ownsRow_made w #[] 0 (Nat.le_refl _) (Nat.zero_le _) rfl, (Below.refl _ _).alloc (Nat.le_refl _) _⟩, cutat_start _ _⟩
  go_loopw [5, 6, 7] (fun v0 f0 i0 wr => ∃ (ws : List ByteArray) (v : Value) (f i : Nat), v = v0 ∧ f0 = .int .i64 f ∧ i0 = .int .i64 i ∧ Hid (OwnS w v ws wr ∧ CutAt c s.data.toList ws f i)) (fun _ _ i _ => s.size + 1 - (intOf i).toNat)
  case atStart => exact ⟨[], _, 0, 0, rfl, rfl, rfl, hO⟩
  case round =>
    obtain ⟨ws, v, f, i, rfl, rfl, rfl, hH⟩ := hrel
    have hsl : s.data.toList.length = s.size := by simp
    by_cases hlt : i ≤ s.size
    · have hf : f ≤ i ∧ ws.length ≤ 1048577 := by
        rcases hH.out.2 with ⟨_, h2, _, _, h5⟩ | ⟨h1, _⟩
        · exact ⟨h2, by omega⟩
        · omega
      obtain ⟨hfi, hwl⟩ := hf
      have hx : (s.extract f i).data.toList = (s.data.toList.drop f).take (i - f) := by simp [ByteArray.data_extract, List.extract_eq_take_drop]
      by_cases hend : i = s.size
      · subst hend
        have H2 : Hid (OwnS w v ws wr) := hH.out.1
        have HN : Hid (CutAt c s.data.toList (ws ++ [s.extract f s.size]) (s.size + 1) (s.size + 1)) := by
          have h2 := hH.out.2
          rw [← hsl] at h2 hx ⊢
          exact cutat_end h2 hx
        have hl : ws.length ≤ 1048577 := hwl
        clear hH
        have B3 : Hid (Below wr.heap.size wr (wr.alloc (.cells #[.string (s.extract f s.size)] 9))) := (Below.refl _ _).alloc (Nat.le_refl _) _
        have hown : (wr.alloc (.cells #[.string (s.extract f s.size)] 9)).ownsRow w.heap.size 9 1 v ws.length (ws.map Value.string) := (H2.out.next B3.out).1
        have hbs : w.heap.size ≤ (wr.alloc (.cells #[.string (s.extract f s.size)] 9)).heap.size := (H2.out.next B3.out).2.size
        have hnews := new_one wr (.string (s.extract f s.size)) 9
        obtain ⟨i0, hi, hz, hsz, hby⟩ := Tryz.infoS
        have hby6 : (ws.length + 1) * i0.bytes ≤ 140737488355328 := by
          have : (ws.length + 1) * i0.bytes ≤ 1048578 * 128 := Nat.mul_le_mul (by omega) hby
          omega
        go_wp2_with (at_builtin; refine wpList_append_own_at _ rfl _ _ 50 rfl w.heap.size 9 i0 _ 1 i0.bytes Tryz.underlying50 hi hz hsz rfl rfl (by decide) _ ws.length (ws.map Value.string) rfl hown ⟨wr.heap.size, 0, none⟩ 1 1 [.string (s.extract f s.size)] rfl rfl hnews (by simp [Value.oneCell']) (by unfold maxLen; omega) hby6 hbs ?_; intro v' w7 hown7 hgrow hnil hloc)
        have HF : Hid (OwnS w v' (ws ++ [s.extract f s.size]) w7 ∧ CutAt c s.data.toList (ws ++ [s.extract f s.size]) (s.size + 1) (s.size + 1)) := ⟨⟨by simpa using hown7, (H2.out.next B3.out).2.grown hgrow hbs (own_base hown)⟩, HN.out⟩
        clear hown7 hgrow hnil hloc hown hbs hnews hi hz hsz hby hby6 H2 B3 HN
        go_wp2_with fail
        go_roundw
        case rel => exact ⟨_, _, s.size + 1, s.size + 1, rfl, by go_num, by go_num, HF⟩
        case measure => simp [intOf]
      · have hi2 : i < s.size := by omega
        have he0 : ((i : Int) == (s.size : Int)) = false := by rw [beq_eq_false_iff_ne]; omega
        by_cases hb : s[i] = c
        · have he2 : ((s[i].toNat : Int) == (c.toNat : Int)) = true := by rw [hb]; simp
          have H2 : Hid (OwnS w v ws wr) := hH.out.1
          have HN : Hid (CutAt c s.data.toList (ws ++ [s.extract f i]) (i + 1) (i + 1)) := cutat_hit hH.out.2 (by omega) hb hx
          have hl : ws.length ≤ 1048577 := hwl
          clear hH
          have B3 : Hid (Below wr.heap.size wr (wr.alloc (.cells #[.string (s.extract f i)] 9))) := (Below.refl _ _).alloc (Nat.le_refl _) _
          have hown : (wr.alloc (.cells #[.string (s.extract f i)] 9)).ownsRow w.heap.size 9 1 v ws.length (ws.map Value.string) := (H2.out.next B3.out).1
          have hbs : w.heap.size ≤ (wr.alloc (.cells #[.string (s.extract f i)] 9)).heap.size := (H2.out.next B3.out).2.size
          have hnews := new_one wr (.string (s.extract f i)) 9
          obtain ⟨i0, hi, hz, hsz, hby⟩ := Tryz.infoS
          have hby6 : (ws.length + 1) * i0.bytes ≤ 140737488355328 := by
            have : (ws.length + 1) * i0.bytes ≤ 1048578 * 128 := Nat.mul_le_mul (by omega) hby
            omega
          go_wp2_with (at_builtin; refine wpList_append_own_at _ rfl _ _ 50 rfl w.heap.size 9 i0 _ 1 i0.bytes Tryz.underlying50 hi hz hsz rfl rfl (by decide) _ ws.length (ws.map Value.string) rfl hown ⟨wr.heap.size, 0, none⟩ 1 1 [.string (s.extract f i)] rfl rfl hnews (by simp [Value.oneCell']) (by unfold maxLen; omega) hby6 hbs ?_; intro v' w7 hown7 hgrow hnil hloc)
          have HF : Hid (OwnS w v' (ws ++ [s.extract f i]) w7 ∧ CutAt c s.data.toList (ws ++ [s.extract f i]) (i + 1) (i + 1)) := ⟨⟨by simpa using hown7, (H2.out.next B3.out).2.grown hgrow hbs (own_base hown)⟩, HN.out⟩
          clear hown7 hgrow hnil hloc hown hbs hnews hi hz hsz hby hby6 H2 B3 HN
          go_wp2_with fail
          go_roundw
          case rel => exact ⟨_, _, i + 1, i + 1, rfl, by go_num, by go_num, HF⟩
          case measure => simp [intOf]; omega
        · have he2 : ((s[i].toNat : Int) == (c.toNat : Int)) = false := by
            rw [beq_eq_false_iff_ne]
            exact fun e => hb (UInt8.toNat_inj.1 (by omega))
          have HF : Hid (OwnS w v ws wr ∧ CutAt c s.data.toList ws f (i + 1)) := ⟨hH.out.1, cutat_miss hH.out.2 (by omega) hb⟩
          clear hH
          go_wp2_with fail
          go_roundw
          case rel => exact ⟨_, _, f, i + 1, rfl, rfl, by go_num, HF⟩
          case measure => simp [intOf]; omega
    · go_wp2_with fail
      go_ret
      rcases hH.out.2 with ⟨h1, _⟩ | ⟨_, h2, _⟩
      · omega
      · exact ⟨_, ws, rfl, hH.out.1, h2.symm⟩

end Go.Proofs.YtpcfebekkgfpjaaGreatDoor
