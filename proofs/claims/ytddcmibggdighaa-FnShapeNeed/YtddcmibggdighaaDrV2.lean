/- The draw of values for columns, over the seat's translation. -/
import Derived.Test.YtddcmibggdighaaDrV1
import Derived.Test.YtddcmibggdighaaOver
namespace Go.Proofs.Ytddcmibggdighaa
open Go.RowKit

theorem cols_grown {W W' : World} {b o : Nat} {L : List ACol} {row : Option Nat} (h : ColsAt W (some ⟨b, o, none⟩) L) (hg : W.grownBy W' row) (hne : row ≠ some b) : ColsAt W' (some ⟨b, o, none⟩) L := by
  rcases h with h | ⟨b', o', e, hlt, hr⟩
  · exact Or.inl h
  · cases e
    exact Or.inr ⟨b, o, rfl, Nat.lt_of_lt_of_le hlt hg.size, fun i c hc j v hv => hg.cell (hr i c hc j v hv) (fun e => hne e.symm)⟩

theorem own_cap {base b1 cap1 : Nat} {V : List AVal} {W : World} (h : OwnVals base (.slice (some ⟨b1, 0, none⟩) V.length cap1) V W) : V.length ≤ cap1 := by
  rcases h.1.2 with ⟨e, _⟩ | ⟨g', cap', cur, e, _, _, hle, _⟩
  · cases e
  · cases e
    exact hle

/-- While values are drawn: those that are drawn, the columns, the reader. -/
def VS (B g base b o q : Nat) (w : World) (L : List ACol) (out : Value) (V : List AVal) (W : World) : Prop := OwnVals base out V W ∧ ColsAt W (some ⟨b, o, none⟩) L ∧ (∀ v ∈ V, v.small) ∧ Rd B g q W ∧ Upd g w W
theorem VS.upd {B g base b o q q' : Nat} {w : World} {L : List ACol} {out : Value} {V : List AVal} {W W' : World} (h : VS B g base b o q w L out V W) (hg : g < base) (hbg : b ≠ g) (hr : Rd B g q' W') (hu : Upd g W W') : VS B g base b o q' w L out V W' :=
  ⟨h.1.upd hu hg, h.2.1.upd hu hbg, h.2.2.1, hr, h.2.2.2.2.trans hu⟩
theorem VS.keep {B g base b o q : Nat} {w : World} {L : List ACol} {out : Value} {V : List AVal} {W W' : World} (h : VS B g base b o q w L out V W) (hg : g < base) (hb : Below W.heap.size W W') : VS B g base b o q w L out V W' :=
  ⟨h.1.upd (Upd.ofBelow hb) hg, h.2.1.keep hb, h.2.2.1, h.2.2.2.1.keep hb, h.2.2.2.2.trans (Upd.ofBelow hb)⟩
theorem VS.other {B g base b o q x : Nat} {w : World} {L : List ACol} {out : Value} {V : List AVal} {W W' : World} (h : VS B g base b o q w L out V W) (hx : out.ownBlock ≠ some x) (hbx : b ≠ x) (hgx : x ≠ g) (hB : B ≤ x) (hw : w.heap.size ≤ x) (hu : Upd x W W') : VS B g base b o q w L out V W' :=
  ⟨⟨World.ownsRow.kept h.1.1 (grown_of_upd hu) (Or.inr hx), h.1.2⟩, h.2.1.upd hu hbx, h.2.2.1, h.2.2.2.1.other hu hgx hB, h.2.2.2.2.other hu hw⟩

set_option maxRecDepth 100000 in
set_option maxHeartbeats 2000000 in
theorem l2_vals (B g p b o cap : Nat) (L : List ACol) (w : World) (hr : Rd B g p w) (hp : p < 600000) (hL : ColsAt w (some ⟨b, o, none⟩) L) (hbg : b ≠ g) (hbw : b < w.heap.size) (hl : L.length ≤ 10) :
    Calls Try.prog 11 #[.pointer (some ⟨g, 0, none⟩), .slice (some ⟨b, o, none⟩) L.length cap] w fun e w' => ∃ (b' o' cap' : Nat) (V : List AVal) (q : Nat), e = .returned (.slice (some ⟨b', o', none⟩) V.length cap') ∧ w.heap.size ≤ b' ∧ ValsAt w' (some ⟨b', o', none⟩) V ∧ V.length ≤ cap' ∧ V.length ≤ 11 ∧ (∀ v ∈ V, v.small) ∧ q ≤ p + 60 ∧ Rd B g q w' ∧ Upd g w w' := by
  have hg : g < w.heap.size := hr.2.1
  have hBw : B ≤ w.heap.size := by have := hr.1; omega
  have b0 := alloc_below w (.cells #[] 29)
  have HI : Hid (OwnVals w.heap.size (.slice (some ⟨w.heap.size, 0, none⟩) 0 0) [] (w.alloc (.cells #[] 29)) ∧ ColsAt (w.alloc (.cells #[] 29)) (some ⟨b, o, none⟩) L ∧ Rd B g p (w.alloc (.cells #[] 29)) ∧ Upd g w (w.alloc (.cells #[] 29))) :=
    ⟨⟨World.ownsRow_made w #[] 0 (Nat.le_refl _) (Nat.zero_le _) rfl, by simp⟩, hL.keep b0, hr.keep b0, Upd.ofBelow b0⟩
  clear hr b0 hL
  go_enter Try.func11, Try.ntmps11
  go_wp2_with fail
  obtain ⟨i0, hi, hz, hsz, hby⟩ := Try.info29
  go_loopw [5, 6] (fun out i wr => ∃ (k : Nat) (V : List AVal) (q : Nat), k ≤ L.length ∧ i = .int .i64 k ∧ V.length ≤ k ∧ q ≤ p + 4 * k ∧ Hid (VS B g w.heap.size b o q w L out V wr)) (fun _ i _ => L.length - (intOf i).toNat)
  case atStart => exact ⟨0, [], p, Nat.zero_le _, rfl, by simp, by omega, ⟨HI.out.1, HI.out.2.1, fun c hc => by simp at hc, HI.out.2.2.1, HI.out.2.2.2⟩⟩
  case round =>
    obtain ⟨k, V, q, hk, rfl, hVk, hqk, hH⟩ := hrel
    clear HI
    have hby6 : (V.length + 1) * i0.bytes ≤ 140737488355328 := by
      have : (V.length + 1) * i0.bytes ≤ 12 * 128 := Nat.mul_le_mul (by omega) hby
      omega
    by_cases hlt : k < L.length
    · obtain ⟨b', o', hab, hbl, hr⟩ := hH.out.2.1.at hlt
      cases hab
      revert hr
      generalize L[k] = c
      intro hr
      have hix : ∀ wx, (Instr.indexAt 23 (.slice (some ⟨b, o, none⟩) L.length cap) (.int .i64 k)).run Try.prog wx = .ok (.pointer (some ⟨b, o + k * 7, none⟩)) wx := fun wx => run_ix _ _ _ _ _ _ _ wx hlt Try.underlying23 (Try.sizeOf31 wx)
      have hld := cells7_of hr
      have hcr : Hid (Cells7 wr b (o + k * 7) c ∧ b < wr.heap.size) := ⟨hld, hbl⟩
      clear hr
      go_wp2_with fail
      refine (l1_some B g q _ _ hH.out.2.2.2.1 (by omega)).mono ?_
      rintro e w2 ⟨vk, vn, vs, q2, rfl, hvs, hq2, hr2, hu2⟩
      have hz2 : wr.heap.size ≤ w2.heap.size := hu2.size
      have h2 : VS B g w.heap.size b o q2 w L u5 V w2 := hH.out.upd hg hbg hr2 hu2
      have b2 := alloc_below w2 (.cells #[.int .i64 vk, .int .i64 vn, .string vs] 29)
      have hown2 : ∀ x, u5.ownBlock = some x → x < w2.heap.size := fun x hx => (World.ownsRow.lt h2.1.1 x hx).2
      have hx2 : u5.ownBlock ≠ some w2.heap.size := fun e => by have := hown2 _ e; omega
      have hw2 : w.heap.size ≤ w2.heap.size := h2.2.2.2.2.size
      have H3 : Hid (VS B g w.heap.size b o q2 w L u5 V (w2.alloc (.cells #[.int .i64 vk, .int .i64 vn, .string vs] 29))) := h2.keep hg b2
      have hB3 := box3 w2 (.int .i64 vk) (.int .i64 vn) (.string vs) 29
      have hld3 : Cells7 (w2.alloc (.cells #[.int .i64 vk, .int .i64 vn, .string vs] 29)) b (o + k * 7) c := by
        have hcx : ∀ x, (w2.alloc (.cells #[.int .i64 vk, .int .i64 vn, .string vs] 29)).cell? ⟨b, x, none⟩ = wr.cell? ⟨b, x, none⟩ := fun x => ((bcell b2).1 b x (by omega)).trans ((ucell hu2).1 b x hbl hbg)
        unfold Cells7
        simp only [hcx]
        exact hcr.out.1
      have HB3 : Hid (Box3 w2.heap.size (.int .i64 vk) (.int .i64 vn) (.string vs) (w2.alloc (.cells #[.int .i64 vk, .int .i64 vn, .string vs] 29)) ∧ Cells7 (w2.alloc (.cells #[.int .i64 vk, .int .i64 vn, .string vs] 29)) b (o + k * 7) c) := ⟨hB3, hld3⟩
      have hz3 : w2.heap.size < (w2.alloc (.cells #[.int .i64 vk, .int .i64 vn, .string vs] 29)).heap.size := by simp
      have hbl2 : b < w2.heap.size := by omega
      clear hr2 hu2 h2 b2 hld hB3 hld3 hH hcr hown2
      cases hnd : c.nd
      · obtain ⟨⟨_, x0, x1, x2, y0, y1, y2⟩, hld3⟩ := HB3.out
        clear HB3
        have hVS6 := H3.out.keep hg (alloc_below (w2.alloc (.cells #[.int .i64 vk, .int .i64 vn, .string vs] 29)) (.cells #[.int .i64 vk, .int .i64 vn, .string vs] 29))
        have hown6 := hVS6.1.1
        have hb6 : w.heap.size ≤ ((w2.alloc (.cells #[.int .i64 vk, .int .i64 vn, .string vs] 29)).alloc (.cells #[.int .i64 vk, .int .i64 vn, .string vs] 29)).heap.size := hVS6.2.2.2.2.size
        have hnews := newv_cells (w2.alloc (.cells #[.int .i64 vk, .int .i64 vn, .string vs] 29)) ⟨vk, vn, vs⟩ 29
        have e1 : (w2.alloc (.cells #[.int .i64 vk, .int .i64 vn, .string vs] 29)).heap.size = w2.heap.size + 1 := by simp
        rw [e1] at hnews
        have hFx : Hid (VS B g w.heap.size b o q2 w L u5 V ((w2.alloc (.cells #[.int .i64 vk, .int .i64 vn, .string vs] 29)).alloc (.cells #[.int .i64 vk, .int .i64 vn, .string vs] 29))) := hVS6
        clear hVS6
        go_wp2_with (at_builtin; refine wpList_append_own_at _ rfl _ _ 24 rfl w.heap.size 29 i0 _ 3 i0.bytes Try.underlying24 hi hz hsz rfl rfl (by decide) _ V.length (V.flatMap AVal.cells) rfl hown6 ⟨w2.heap.size + 1, 0, none⟩ 1 1 (AVal.cells ⟨vk, vn, vs⟩) rfl rfl hnews (cellsv_one _) (by unfold maxLen; omega) hby6 hb6 ?_; intro v' w9 hown9 hgrow hnil hloc)
        have hR9 := grown_rd hFx.out.2.2.2.1 hFx.out.2.2.2.2 hgrow (ownv_row (L := V) hFx.out.1) hg hBw (Nat.le_refl _)
        have hC9 : ColsAt w9 (some ⟨b, o, none⟩) L := cols_grown hFx.out.2.1 hgrow (fun e => by have := (World.ownsRow.lt hFx.out.1.1 b e).1; omega)
        have HF : Hid (VS B g w.heap.size b o q2 w L v' (V ++ [⟨vk, vn, vs⟩]) w9) :=
          ⟨ownv_snoc hown9 (fun e => by have := (hnil.1 e).2; omega), hC9, fun c hc => by
            rcases List.mem_append.1 hc with h | h
            · exact hFx.out.2.2.1 c h
            · rw [List.mem_singleton] at h; subst h; exact hvs, hR9.1, hR9.2⟩
        clear hown9 hgrow hnil hloc hR9 hC9 hFx hown6 hb6 hnews
        go_wp2_with fail
        go_roundw
        case rel => exact ⟨k + 1, V ++ [⟨vk, vn, vs⟩], q2, by omega, by go_num, by simp; omega, by omega, HF⟩
        case measure => simp [intOf]; omega
      · cases hv0 : (vk == 0)
        · obtain ⟨⟨_, x0, x1, x2, y0, y1, y2⟩, hld3⟩ := HB3.out
          clear HB3
          have hVS6 := H3.out.keep hg (alloc_below (w2.alloc (.cells #[.int .i64 vk, .int .i64 vn, .string vs] 29)) (.cells #[.int .i64 vk, .int .i64 vn, .string vs] 29))
          have hown6 := hVS6.1.1
          have hb6 : w.heap.size ≤ ((w2.alloc (.cells #[.int .i64 vk, .int .i64 vn, .string vs] 29)).alloc (.cells #[.int .i64 vk, .int .i64 vn, .string vs] 29)).heap.size := hVS6.2.2.2.2.size
          have hnews := newv_cells (w2.alloc (.cells #[.int .i64 vk, .int .i64 vn, .string vs] 29)) ⟨vk, vn, vs⟩ 29
          have e1 : (w2.alloc (.cells #[.int .i64 vk, .int .i64 vn, .string vs] 29)).heap.size = w2.heap.size + 1 := by simp
          rw [e1] at hnews
          have hFx : Hid (VS B g w.heap.size b o q2 w L u5 V ((w2.alloc (.cells #[.int .i64 vk, .int .i64 vn, .string vs] 29)).alloc (.cells #[.int .i64 vk, .int .i64 vn, .string vs] 29))) := hVS6
          clear hVS6
          go_wp2_with (at_builtin; refine wpList_append_own_at _ rfl _ _ 24 rfl w.heap.size 29 i0 _ 3 i0.bytes Try.underlying24 hi hz hsz rfl rfl (by decide) _ V.length (V.flatMap AVal.cells) rfl hown6 ⟨w2.heap.size + 1, 0, none⟩ 1 1 (AVal.cells ⟨vk, vn, vs⟩) rfl rfl hnews (cellsv_one _) (by unfold maxLen; omega) hby6 hb6 ?_; intro v' w9 hown9 hgrow hnil hloc)
          have hR9 := grown_rd hFx.out.2.2.2.1 hFx.out.2.2.2.2 hgrow (ownv_row (L := V) hFx.out.1) hg hBw (Nat.le_refl _)
          have hC9 : ColsAt w9 (some ⟨b, o, none⟩) L := cols_grown hFx.out.2.1 hgrow (fun e => by have := (World.ownsRow.lt hFx.out.1.1 b e).1; omega)
          have HF : Hid (VS B g w.heap.size b o q2 w L v' (V ++ [⟨vk, vn, vs⟩]) w9) :=
            ⟨ownv_snoc hown9 (fun e => by have := (hnil.1 e).2; omega), hC9, fun c hc => by
              rcases List.mem_append.1 hc with h | h
              · exact hFx.out.2.2.1 c h
              · rw [List.mem_singleton] at h; subst h; exact hvs, hR9.1, hR9.2⟩
          clear hown9 hgrow hnil hloc hR9 hC9 hFx hown6 hb6 hnews
          go_wp2_with fail
          go_roundw
          case rel => exact ⟨k + 1, V ++ [⟨vk, vn, vs⟩], q2, by omega, by go_num, by simp; omega, by omega, HF⟩
          case measure => simp [intOf]; omega
        · obtain ⟨⟨_, x0, x1, x2, y0, y1, y2⟩, hld3⟩ := HB3.out
          go_wp2_with fail
          clear x0 x1 x2 y0 y1 y2 hld3
          refine (pick_any B g q2 _ _ H3.out.2.2.2.1 (by omega) (by omega) (by omega)).mono ?_
          rintro e w4 ⟨t, rfl, ht, hr4, hu4⟩
          have hz4 : w2.heap.size < w4.heap.size := by have := hu4.size; omega
          have H4 : Hid (VS B g w.heap.size b o (q2 + 1) w L u5 V w4) := H3.out.upd hg hbg hr4 hu4
          have hB4 := HB3.out.1.upd hu4 (by omega)
          have hld4 : Cells7 w4 b (o + k * 7) c := by
            have hcx : ∀ x, w4.cell? ⟨b, x, none⟩ = (w2.alloc (.cells #[.int .i64 vk, .int .i64 vn, .string vs] 29)).cell? ⟨b, x, none⟩ := fun x => (ucell hu4).1 b x (by omega) hbg
            unfold Cells7
            simp only [hcx]
            exact HB3.out.2
          obtain ⟨_, x0, x1, x2, y0, y1, y2⟩ := hB4
          clear hr4 hu4 HB3 H3
          by_cases ht0 : ¬ 0 < t
          · have ht1 : t = 0 := by omega
            subst ht1
            clear hld4
            have hVS6 := H4.out.keep hg (alloc_below w4 (.cells #[.int .i64 vk, .int .i64 vn, .string vs] 29))
            have hown6 := hVS6.1.1
            have hb6 : w.heap.size ≤ (w4.alloc (.cells #[.int .i64 vk, .int .i64 vn, .string vs] 29)).heap.size := hVS6.2.2.2.2.size
            have hnews := newv_cells w4 ⟨vk, vn, vs⟩ 29
            have hFx : Hid (VS B g w.heap.size b o (q2 + 1) w L u5 V (w4.alloc (.cells #[.int .i64 vk, .int .i64 vn, .string vs] 29))) := hVS6
            clear hVS6
            go_wp2_with (at_builtin; refine wpList_append_own_at _ rfl _ _ 24 rfl w.heap.size 29 i0 _ 3 i0.bytes Try.underlying24 hi hz hsz rfl rfl (by decide) _ V.length (V.flatMap AVal.cells) rfl hown6 ⟨w4.heap.size, 0, none⟩ 1 1 (AVal.cells ⟨vk, vn, vs⟩) rfl rfl hnews (cellsv_one _) (by unfold maxLen; omega) hby6 hb6 ?_; intro v' w9 hown9 hgrow hnil hloc)
            have hR9 := grown_rd hFx.out.2.2.2.1 hFx.out.2.2.2.2 hgrow (ownv_row (L := V) hFx.out.1) hg hBw (Nat.le_refl _)
            have hC9 : ColsAt w9 (some ⟨b, o, none⟩) L := cols_grown hFx.out.2.1 hgrow (fun e => by have := (World.ownsRow.lt hFx.out.1.1 b e).1; omega)
            have HF : Hid (VS B g w.heap.size b o (q2 + 1) w L v' (V ++ [⟨vk, vn, vs⟩]) w9) :=
              ⟨ownv_snoc hown9 (fun e => by have := (hnil.1 e).2; omega), hC9, fun c hc => by
                rcases List.mem_append.1 hc with h | h
                · exact hFx.out.2.2.1 c h
                · rw [List.mem_singleton] at h; subst h; exact hvs, hR9.1, hR9.2⟩
            clear hown9 hgrow hnil hloc hR9 hC9 hFx hown6 hb6 hnews
            go_wp2_with fail
            go_roundw
            case rel => exact ⟨k + 1, V ++ [⟨vk, vn, vs⟩], (q2 + 1), by omega, by go_num, by simp; omega, by omega, HF⟩
            case measure => simp [intOf]; omega
          · have ht1 : 0 < t := by omega
            clear ht0
            have H5 : Hid (VS B g w.heap.size b o (q2 + 1) w L u5 V (((w4.setCell ⟨w2.heap.size, 0, none⟩ (.int .i64 c.kd)).setCell ⟨w2.heap.size, 1, none⟩ (.int .i64 0)).setCell ⟨w2.heap.size, 2, none⟩ (.string ⟨#[]⟩))) := H4.out.other hx2 (by omega) (by omega) (by omega) (by omega) (Upd.set3 _ _ _ _)
            have hVS6 := H5.out.keep hg (alloc_below (((w4.setCell ⟨w2.heap.size, 0, none⟩ (.int .i64 c.kd)).setCell ⟨w2.heap.size, 1, none⟩ (.int .i64 0)).setCell ⟨w2.heap.size, 2, none⟩ (.string ⟨#[]⟩)) (.cells #[.int .i64 c.kd, .int .i64 0, .string ⟨#[]⟩] 29))
            have hown6 := hVS6.1.1
            have hb6 : w.heap.size ≤ ((((w4.setCell ⟨w2.heap.size, 0, none⟩ (.int .i64 c.kd)).setCell ⟨w2.heap.size, 1, none⟩ (.int .i64 0)).setCell ⟨w2.heap.size, 2, none⟩ (.string ⟨#[]⟩)).alloc (.cells #[.int .i64 c.kd, .int .i64 0, .string ⟨#[]⟩] 29)).heap.size := hVS6.2.2.2.2.size
            have hnews := newv_cells (((w4.setCell ⟨w2.heap.size, 0, none⟩ (.int .i64 c.kd)).setCell ⟨w2.heap.size, 1, none⟩ (.int .i64 0)).setCell ⟨w2.heap.size, 2, none⟩ (.string ⟨#[]⟩)) ⟨c.kd, 0, ⟨#[]⟩⟩ 29
            have e1 : (((w4.setCell ⟨w2.heap.size, 0, none⟩ (.int .i64 c.kd)).setCell ⟨w2.heap.size, 1, none⟩ (.int .i64 0)).setCell ⟨w2.heap.size, 2, none⟩ (.string ⟨#[]⟩)).heap.size = w4.heap.size := by simp
            rw [e1] at hnews
            have hFx : Hid (VS B g w.heap.size b o (q2 + 1) w L u5 V ((((w4.setCell ⟨w2.heap.size, 0, none⟩ (.int .i64 c.kd)).setCell ⟨w2.heap.size, 1, none⟩ (.int .i64 0)).setCell ⟨w2.heap.size, 2, none⟩ (.string ⟨#[]⟩)).alloc (.cells #[.int .i64 c.kd, .int .i64 0, .string ⟨#[]⟩] 29))) := hVS6
            clear hVS6
            go_wp2_with (at_builtin; refine wpList_append_own_at _ rfl _ _ 24 rfl w.heap.size 29 i0 _ 3 i0.bytes Try.underlying24 hi hz hsz rfl rfl (by decide) _ V.length (V.flatMap AVal.cells) rfl hown6 ⟨w4.heap.size, 0, none⟩ 1 1 (AVal.cells ⟨c.kd, 0, ⟨#[]⟩⟩) rfl rfl hnews (cellsv_one _) (by unfold maxLen; omega) hby6 hb6 ?_; intro v' w9 hown9 hgrow hnil hloc)
            have hR9 := grown_rd hFx.out.2.2.2.1 hFx.out.2.2.2.2 hgrow (ownv_row (L := V) hFx.out.1) hg hBw (Nat.le_refl _)
            have hC9 : ColsAt w9 (some ⟨b, o, none⟩) L := cols_grown hFx.out.2.1 hgrow (fun e => by have := (World.ownsRow.lt hFx.out.1.1 b e).1; omega)
            have HF : Hid (VS B g w.heap.size b o (q2 + 1) w L v' (V ++ [⟨c.kd, 0, ⟨#[]⟩⟩]) w9) :=
              ⟨ownv_snoc hown9 (fun e => by have := (hnil.1 e).2; omega), hC9, fun c hc => by
                rcases List.mem_append.1 hc with h | h
                · exact hFx.out.2.2.1 c h
                · rw [List.mem_singleton] at h; subst h; exact (show (⟨#[]⟩ : ByteArray).size ≤ 5 from by decide), hR9.1, hR9.2⟩
            clear hown9 hgrow hnil hloc hR9 hC9 hFx hown6 hb6 hnews
            go_wp2_with fail
            go_roundw
            case rel => exact ⟨k + 1, V ++ [⟨c.kd, 0, ⟨#[]⟩⟩], (q2 + 1), by omega, by go_num, by simp; omega, by omega, HF⟩
            case measure => simp [intOf]; omega
    · have hkl : k = L.length := by omega
      subst hkl
      go_wp2_with fail
      refine (pick_any B g q _ _ hH.out.2.2.2.1 (by omega) (by omega) (by omega)).mono ?_
      rintro e w2 ⟨t, rfl, ht, hr2, hu2⟩
      have H2 : Hid (VS B g w.heap.size b o (q + 1) w L u5 V w2) := hH.out.upd hg hbg hr2 hu2
      clear hr2 hu2 hH
      obtain ⟨b1, cap1, rfl, hb1, hva⟩ := H2.out.1.cols
      have hcap1 : V.length ≤ cap1 := own_cap H2.out.1
      by_cases t0 : t = 0
      · subst t0
        have hVS6 := H2.out.keep hg (alloc_below w2 (.cells #[.int .i64 0, .int .i64 0, .string ⟨#[]⟩] 29))
        have hown6 := hVS6.1.1
        have hb6 : w.heap.size ≤ (w2.alloc (.cells #[.int .i64 0, .int .i64 0, .string ⟨#[]⟩] 29)).heap.size := hVS6.2.2.2.2.size
        have hnews := newv_cells w2 ⟨0, 0, ⟨#[]⟩⟩ 29
        have hFx : Hid (VS B g w.heap.size b o (q + 1) w L (.slice (some ⟨b1, 0, none⟩) V.length cap1) V (w2.alloc (.cells #[.int .i64 0, .int .i64 0, .string ⟨#[]⟩] 29))) := hVS6
        clear hVS6 hva
        go_wp2_with (at_builtin; refine wpList_append_own_at _ rfl _ _ 24 rfl w.heap.size 29 i0 _ 3 i0.bytes Try.underlying24 hi hz hsz rfl rfl (by decide) _ V.length (V.flatMap AVal.cells) rfl hown6 ⟨w2.heap.size, 0, none⟩ 1 1 (AVal.cells ⟨0, 0, ⟨#[]⟩⟩) rfl rfl hnews (cellsv_one _) (by unfold maxLen; omega) hby6 hb6 ?_; intro v' w9 hown9 hgrow hnil hloc)
        have hR9 := grown_rd hFx.out.2.2.2.1 hFx.out.2.2.2.2 hgrow (ownv_row (L := V) hFx.out.1) hg hBw (Nat.le_refl _)
        have hO9 := ownv_snoc hown9 (fun e => by have := (hnil.1 e).2; omega)
        obtain ⟨b9, cap9, rfl, hb9, hva9⟩ := hO9.cols
        have hcap9 := own_cap hO9
        go_ret
        refine ⟨b9, 0, cap9, V ++ [⟨0, 0, ⟨#[]⟩⟩], q + 1, rfl, hb9, hva9, hcap9, by simp; omega, fun c hc => ?_, by omega, hR9.1, hR9.2⟩
        rcases List.mem_append.1 hc with h | h
        · exact H2.out.2.2.1 c h
        · rw [List.mem_singleton] at h; subst h; exact (show (⟨#[]⟩ : ByteArray).size ≤ 5 from by decide)
      by_cases t1 : t = 1
      · subst t1
        cases V with
        | nil =>
          go_wp2_with fail
          go_ret
          exact ⟨b1, 0, cap1, [], q + 1, rfl, hb1, hva, by simp, by simp, fun c hc => by simp at hc, by omega, H2.out.2.2.2.1, H2.out.2.2.2.2⟩
        | cons v0 V =>
          have hvl : (0 : Int) < (v0 :: V).length := by simp
          have hvl1 : 0 < (v0 :: V).length := by simp
          have hs0 := H2.out.2.2.1
          generalize v0 :: V = U at *
          have HB : Hid (BentV B g w.heap.size b1 cap1 (q + 1) w U w2) := ⟨H2.out.1, H2.out.2.2.2.1, H2.out.2.2.2.2⟩
          clear H2 hva
          go_wp2_with fail
          refine (pick_any B g (q + 1) _ _ HB.out.2.1 (by omega) (by omega) (by omega)).mono ?_
          rintro e w3 ⟨j, rfl, hj, hr3, hu3⟩
          have H3 : Hid (BentV B g w.heap.size b1 cap1 (q + 1 + 1) w U w3) := HB.out.upd hg hr3 hu3
          clear hr3 hu3 HB
          have hjl : j < U.length := by omega
          go_wp2_with fail
          refine (l1_draw B g (q + 1 + 1) _ H3.out.2.1 (by omega)).mono ?_
          rintro e w4 ⟨vk, vn, vs, q4, rfl, hvs, hq4, hr4, hu4⟩
          have H4 : Hid (BentV B g w.heap.size b1 cap1 q4 w U w4) := H3.out.upd hg hr4 hu4
          clear hr4 hu4 H3
          have hc := List.getElem?_eq_getElem hjl
          have hcell := H4.out.cells hc
          have hfz := H4.out.soft
          revert hc hcell
          generalize U[j] = c
          intro hc hcell
          have hC : Hid (U[j]? = some c) := hc
          clear hc
          go_wp2_with fail
          go_ret
          have hF1 := H4.out.set hg hBw (Nat.le_refl _) hb1 (k := j) (j := 0) (d := { c with k := vk }) (u := .int .i64 vk) hC.out rfl (by decide)
          have hF2 := hF1.set hg hBw (Nat.le_refl _) hb1 (k := j) (j := 1) (c := { c with k := vk }) (d := { c with k := vk, n := vn }) (u := .int .i64 vn) (by rw [List.getElem?_set_self hjl]) rfl (by decide)
          have hF3 := hF2.set hg hBw (Nat.le_refl _) hb1 (k := j) (j := 2) (c := { c with k := vk, n := vn }) (d := ⟨vk, vn, vs⟩) (u := .string vs) (by rw [List.getElem?_set_self (by rw [List.length_set]; exact hjl)]) rfl (by decide)
          rw [List.set_set, List.set_set] at hF3
          exact ⟨b1, 0, cap1, U.set j ⟨vk, vn, vs⟩, q4, by rw [List.length_set]; rfl, hb1, hF3.fin.at, by rw [List.length_set]; exact hcap1, by rw [List.length_set]; omega, smallv_set hs0 j hvs, by omega, hF3.2.1, hF3.2.2⟩
      by_cases t2 : t = 2
      · subst t2
        cases V with
        | nil =>
          go_wp2_with fail
          go_ret
          exact ⟨b1, 0, cap1, [], q + 1, rfl, hb1, hva, by simp, by simp, fun c hc => by simp at hc, by omega, H2.out.2.2.2.1, H2.out.2.2.2.2⟩
        | cons v0 V =>
          have hvl : (0 : Int) < (v0 :: V).length := by simp
          have hcap2 : V.length + 1 ≤ cap1 := hcap1
          have hsV : ∀ c ∈ V, c.small := fun c hc => H2.out.2.2.1 c (List.mem_cons_of_mem _ hc)
          have htl := hva.tail
          rw [Nat.zero_add] at htl
          have hVl : V.length ≤ 11 := by simp at hVk; omega
          go_wp2_with fail
          all_goals
            go_ret
            first
              | exact ⟨b1, 3, cap1 - 1, V, rfl, hb1, htl, by omega, hVl, hsV, q + 1, by omega, H2.out.2.2.2.1, H2.out.2.2.2.2⟩
              | exact ⟨b1, 3, cap1 - 1, V, q + 1, rfl, hb1, htl, by omega, hVl, hsV, by omega, H2.out.2.2.2.1, H2.out.2.2.2.2⟩
              | exact ⟨b1, 0, 0, V, rfl, hb1, Or.inl (List.length_eq_zero_iff.1 (by omega)), by omega, hVl, hsV, q + 1, by omega, H2.out.2.2.2.1, H2.out.2.2.2.2⟩
              | exact ⟨b1, 0, 0, V, q + 1, rfl, hb1, Or.inl (List.length_eq_zero_iff.1 (by omega)), by omega, hVl, hsV, by omega, H2.out.2.2.2.1, H2.out.2.2.2.2⟩
      · have u0 : ((t : Int) == 0) = false := beq_eq_false_iff_ne.2 (by omega)
        have u1 : ((t : Int) == 1) = false := beq_eq_false_iff_ne.2 (by omega)
        have u2 : ((t : Int) == 2) = false := beq_eq_false_iff_ne.2 (by omega)
        clear t0 t1 t2
        go_wp2_with fail
        go_ret
        exact ⟨b1, 0, cap1, V, q + 1, rfl, hb1, hva, hcap1, by omega, H2.out.2.2.1, by omega, H2.out.2.2.2.1, H2.out.2.2.2.2⟩

end Go.Proofs.Ytddcmibggdighaa
