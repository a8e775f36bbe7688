/- The walk of laws.FnShapeNeed, over the seat's translation. -/
import Derived.Test.YtddcmibggdighaaNd5
import Derived.Test.YtddcmibggdighaaDrV3
namespace Go.Proofs.Ytddcmibggdighaa
open Go.RowKit

/-- The columns and values lie in W, and W lies over w. -/
def LV (w : World) (a d : Option Addr) (L : List ACol) (V : List AVal) (W : World) : Prop := ColsAt W a L ∧ ValsAt W d V ∧ Below w.heap.size w W
theorem LV.next {w : World} {a d : Option Addr} {L : List ACol} {V : List AVal} {W W' : World} (h : LV w a d L V W) (hb : Below W.heap.size W W') : LV w a d L V W' := ⟨h.1.keep hb, h.2.1.keep hb, h.2.2.trans (hb.mono h.2.2.size)⟩

/-- The two changes of the law in their boxes. -/
def TB (p q : Nat) (W : World) : Prop := CH p (needed newC) W ∧ CH q (needed newD) W ∧ p < W.heap.size ∧ q < W.heap.size
theorem TB.next {p q : Nat} {W W' : World} (h : TB p q W) (hb : Below W.heap.size W W') : TB p q W' := ⟨ch_next h.1 h.2.2.1 hb, ch_next h.2.1 h.2.2.2 hb, Nat.lt_of_lt_of_le h.2.2.1 hb.size, Nat.lt_of_lt_of_le h.2.2.2 hb.size⟩
theorem tb_made (w : World) (s t : TypeId) : TB w.heap.size (w.heap.size + 1) ((w.alloc (.cells #[.int .i64 1, .string ⟨#[]⟩, .string ⟨#[]⟩, .string ⟨#[110, 101, 119]⟩, .int .i64 1, .bool true, .bool false, .int .i64 0, .int .i64 0, .string ⟨#[]⟩] s)).alloc (.cells #[.int .i64 1, .string ⟨#[]⟩, .string ⟨#[]⟩, .string ⟨#[110, 101, 119]⟩, .int .i64 1, .bool true, .bool false, .int .i64 1, .int .i64 7, .string ⟨#[]⟩] t)) := by
  have h2 := alloc_below (w.alloc (.cells #[.int .i64 1, .string ⟨#[]⟩, .string ⟨#[]⟩, .string ⟨#[110, 101, 119]⟩, .int .i64 1, .bool true, .bool false, .int .i64 0, .int .i64 0, .string ⟨#[]⟩] s)) (.cells #[.int .i64 1, .string ⟨#[]⟩, .string ⟨#[]⟩, .string ⟨#[110, 101, 119]⟩, .int .i64 1, .bool true, .bool false, .int .i64 1, .int .i64 7, .string ⟨#[]⟩] t)
  have h3 := ch_box (w.alloc (.cells #[.int .i64 1, .string ⟨#[]⟩, .string ⟨#[]⟩, .string ⟨#[110, 101, 119]⟩, .int .i64 1, .bool true, .bool false, .int .i64 0, .int .i64 0, .string ⟨#[]⟩] s)) (needed newD) t
  rw [show (w.alloc (.cells #[.int .i64 1, .string ⟨#[]⟩, .string ⟨#[]⟩, .string ⟨#[110, 101, 119]⟩, .int .i64 1, .bool true, .bool false, .int .i64 0, .int .i64 0, .string ⟨#[]⟩] s)).heap.size = w.heap.size + 1 by simp] at h3
  exact ⟨ch_next (ch_box w (needed newC) s) (C := w.heap.size + 1) (by omega) (h2.mono (by simp)), h3, by simp; omega, by simp⟩

set_option maxRecDepth 100000 in
set_option maxHeartbeats 4000000 in
theorem law_need (x : Option Addr) (len cap : Nat) (w : World) (hlc : len ≤ cap) (hcap : cap ≤ maxLen) (hc : IsCode w.heap.size x len w) :
    Calls Try.prog 3 #[.slice x len cap] w fun e w' => e = .returned (.bool true) ∧ Below w.heap.size w w' := by
  have hcap' := hcap
  unfold maxLen at hcap'
  by_cases hl : (1048576 : Int) < len
  · go_enter Try.func3, Try.ntmps3
    go_wp2_with fail
    go_ret
    exact ⟨rfl, Below.refl _ _⟩
  go_enter Try.func3, Try.ntmps3
  go_wp2_with fail
  refine (draw_row x len cap w hlc hcap hc).mono ?_
  rintro e w1 ⟨bs, cs, bv, ov, cv, L, V, rfl, hL, hV, hl6, hv11, hvc, hs, hvs, hb⟩
  have HSm : Hid (∀ c ∈ L, c.small) := hs
  have hf := fit_small hs
  have hg := fitv_small hvs
  have hm : L.length ≤ maxLen := by unfold maxLen; omega
  have hm2 : V.length ≤ maxLen := by unfold maxLen; omega
  have H1 : Hid (LV w (some ⟨bs, 0, none⟩) (some ⟨bv, ov, none⟩) L V w1) := ⟨hL, hV, hb⟩
  clear hL hV hb hc hs hvs
  go_wp2_with fail
  refine (impl_row _ _ _ _ _ _ _ H1.out.1 H1.out.2.1 hf hg hm hm2).mono ?_
  rintro e w2 ⟨rfl, hb⟩
  have H2 : Hid (LV w (some ⟨bs, 0, none⟩) (some ⟨bv, ov, none⟩) L V w2) := H1.out.next hb
  clear H1 hb
  go_wp2_with fail
  refine (spec_row _ _ _ _ _ _ _ H2.out.1 H2.out.2.1 hf hg hm hm2).mono ?_
  rintro e w3 ⟨rfl, hb⟩
  have H3 : Hid (LV w (some ⟨bs, 0, none⟩) (some ⟨bv, ov, none⟩) L V w3) := H2.out.next hb
  clear H2 hb
  cases hok : rowOk L V
  · have HO : Hid (rowOk L V = false) := hok
    clear hok
    go_wp2_with fail
    refine (spec_row _ _ _ _ _ _ _ H3.out.1 H3.out.2.1 hf hg hm hm2).mono ?_
    rintro e w4 ⟨rfl, hb⟩
    rw [HO.out]
    have H4 : Hid (LV w (some ⟨bs, 0, none⟩) (some ⟨bv, ov, none⟩) L V w4) := H3.out.next hb
    clear hb H3
    go_wp2_with fail
    go_ret
    exact ⟨rfl, H4.out.2.2⟩
  have HO : Hid (rowOk L V = true) := hok
  by_cases h5 : (5 : Int) ≤ L.length
  · clear hok
    go_wp2_with fail
    refine (spec_row _ _ _ _ _ _ _ H3.out.1 H3.out.2.1 hf hg hm hm2).mono ?_
    rintro e w4 ⟨rfl, hb⟩
    rw [HO.out]
    have H4 : Hid (LV w (some ⟨bs, 0, none⟩) (some ⟨bv, ov, none⟩) L V w4) := H3.out.next hb
    clear hb H3
    go_wp2_with fail
    go_ret
    exact ⟨rfl, H4.out.2.2⟩
  have hl4 : L.length < 5 := by omega
  obtain ⟨hsh, hlen, _⟩ := parts_row hok
  have HN : Hid (shapeOk L = true ∧ V.length = L.length ∧ shapeOk (L ++ [needed newD]) = true ∧ rowOk (L ++ [needed newD]) (V ++ [⟨newD.k, newD.n, newD.s⟩]) = true) := ⟨hsh, hlen, shape_new hsh hl4 HSm.out, row_new hok hl4 HSm.out⟩
  have hv50 : V.length ≤ 50 := by omega
  have hT := tb_made w3 33 33
  have hB := (alloc_below w3 (.cells #[.int .i64 1, .string ⟨#[]⟩, .string ⟨#[]⟩, .string ⟨#[110, 101, 119]⟩, .int .i64 1, .bool true, .bool false, .int .i64 0, .int .i64 0, .string ⟨#[]⟩] 33)).trans ((alloc_below (w3.alloc (.cells #[.int .i64 1, .string ⟨#[]⟩, .string ⟨#[]⟩, .string ⟨#[110, 101, 119]⟩, .int .i64 1, .bool true, .bool false, .int .i64 0, .int .i64 0, .string ⟨#[]⟩] 33)) (.cells #[.int .i64 1, .string ⟨#[]⟩, .string ⟨#[]⟩, .string ⟨#[110, 101, 119]⟩, .int .i64 1, .bool true, .bool false, .int .i64 1, .int .i64 7, .string ⟨#[]⟩] 33)).mono (by simp))
  have HT : Hid (TB w3.heap.size (w3.heap.size + 1) ((w3.alloc (.cells #[.int .i64 1, .string ⟨#[]⟩, .string ⟨#[]⟩, .string ⟨#[110, 101, 119]⟩, .int .i64 1, .bool true, .bool false, .int .i64 0, .int .i64 0, .string ⟨#[]⟩] 33)).alloc (.cells #[.int .i64 1, .string ⟨#[]⟩, .string ⟨#[]⟩, .string ⟨#[110, 101, 119]⟩, .int .i64 1, .bool true, .bool false, .int .i64 1, .int .i64 7, .string ⟨#[]⟩] 33)) ∧ LV w (some ⟨bs, 0, none⟩) (some ⟨bv, ov, none⟩) L V ((w3.alloc (.cells #[.int .i64 1, .string ⟨#[]⟩, .string ⟨#[]⟩, .string ⟨#[110, 101, 119]⟩, .int .i64 1, .bool true, .bool false, .int .i64 0, .int .i64 0, .string ⟨#[]⟩] 33)).alloc (.cells #[.int .i64 1, .string ⟨#[]⟩, .string ⟨#[]⟩, .string ⟨#[110, 101, 119]⟩, .int .i64 1, .bool true, .bool false, .int .i64 1, .int .i64 7, .string ⟨#[]⟩] 33))) := ⟨hT, H3.out.next hB⟩
  clear hT hB H3 hok hsh hlen HO HSm
  go_wp2_with fail
  generalize (w3.alloc (.cells #[.int .i64 1, .string ⟨#[]⟩, .string ⟨#[]⟩, .string ⟨#[110, 101, 119]⟩, .int .i64 1, .bool true, .bool false, .int .i64 0, .int .i64 0, .string ⟨#[]⟩] 33)).alloc (.cells #[.int .i64 1, .string ⟨#[]⟩, .string ⟨#[]⟩, .string ⟨#[110, 101, 119]⟩, .int .i64 1, .bool true, .bool false, .int .i64 1, .int .i64 7, .string ⟨#[]⟩] 33) = W3 at *
  refine (shape_do_no newC bs 0 cs L _ HT.out.2.1 hf HN.out.1 rfl).mono ?_
  rintro e w4 ⟨y4, rfl, hb⟩
  have H4 : Hid (TB w3.heap.size (w3.heap.size + 1) w4 ∧ LV w (some ⟨bs, 0, none⟩) (some ⟨bv, ov, none⟩) L V w4) := ⟨HT.out.1.next hb, HT.out.2.next hb⟩
  clear hb HT
  have hD4 := H4.out.1.2.1
  unfold needed newD at hD4
  go_wp2_with fail
  refine (shape_do_yes newD bs 0 cs L _ H4.out.2.1 hf (fit_new hf) HN.out.1 rfl HN.out.2.2.1).mono ?_
  rintro e w5 ⟨b5, c5, rfl, hC5, hb⟩
  have H5 : Hid (TB w3.heap.size (w3.heap.size + 1) w5 ∧ LV w (some ⟨bs, 0, none⟩) (some ⟨bv, ov, none⟩) L V w5 ∧ ColsAt w5 (some ⟨b5, 0, none⟩) (L ++ [needed newD])) := ⟨H4.out.1.next hb, H4.out.2.next hb, hC5⟩
  clear hb H4 hD4 hC5
  have hD5 := H5.out.1.2.1
  unfold needed newD at hD5
  go_wp2_with fail
  refine (row_do_yes newD bs 0 cs bv ov cv L V _ H5.out.2.1.1 H5.out.2.1.2.1 HN.out.2.1 hf (fit_new hf) HN.out.1 rfl HN.out.2.2.1).mono ?_
  rintro e w6 ⟨b6, c6, rfl, hV6, hb⟩
  have H6 : Hid (ColsAt w6 (some ⟨b5, 0, none⟩) (L ++ [needed newD]) ∧ ValsAt w6 (some ⟨b6, 0, none⟩) (V ++ [⟨newD.k, newD.n, newD.s⟩]) ∧ Below w.heap.size w w6) := ⟨H5.out.2.2.keep hb, hV6, (H5.out.2.1.next hb).2.2⟩
  clear hb H5 hD5 hV6
  go_wp2_with fail
  refine (row_more b5 c5 b6 c6 L V (needed newD) ⟨newD.k, newD.n, newD.s⟩ _ H6.out.1 H6.out.2.1 (fit_new hf) (fitv_new hg) (by omega) hv50).mono ?_
  rintro e w7 ⟨rfl, hb⟩
  rw [HN.out.2.2.2]
  have H7 : Hid (Below w.heap.size w w7) := H6.out.2.2.trans (hb.mono H6.out.2.2.size)
  clear hb H6
  go_wp2_with fail
  go_ret
  exact ⟨rfl, H7.out⟩

end Go.Proofs.Ytddcmibggdighaa
