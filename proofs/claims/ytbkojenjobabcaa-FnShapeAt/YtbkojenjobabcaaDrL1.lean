/- The walk of laws.FnShapeAt, over the seat's translation. -/
import Derived.Test.YtbkojenjobabcaaDrC4
import Derived.Test.YtbkojenjobabcaaShS9
namespace Go.Proofs.Ytbkojenjobabcaa
open Go.RowKit

theorem small_fit {L : List ACol} (h : ∀ c ∈ L, c.small) : ∀ c ∈ L, c.fit := fun c hc => by
  have := h c hc
  unfold ACol.small at this
  unfold ACol.fit maxLen
  omega

/-- How many of the first k columns are of that name. -/
def cntTo (L : List ACol) (nm : ByteArray) : Nat → Nat
  | 0 => 0
  | k + 1 => cntTo L nm k + match L[k]? with | some c => if same c.nm nm then 1 else 0 | none => 0
theorem cnt_next (L : List ACol) (nm : ByteArray) (k : Nat) (c : ACol) (h : L[k]? = some c) : cntTo L nm (k + 1) = cntTo L nm k + if same c.nm nm then 1 else 0 := by
  simp [cntTo, h]
theorem same_trans {a b c : ByteArray} (h1 : same a b = true) (h2 : same b c = true) : same a c = true := (same_iff _ _).2 (((same_iff _ _).1 h1).trans ((same_iff _ _).1 h2))
theorem same_symm {a b : ByteArray} (h : same a b = true) : same b a = true := (same_iff _ _).2 ((same_iff _ _).1 h).symm
theorem cnt_is (L : List ACol) (nm : ByteArray) (hd : firsts L L.length) (k : Nat) (hk : k ≤ L.length) : cntTo L nm k = if lacks (L.take k) nm then 0 else 1 := by
  induction k with
  | zero => rfl
  | succ k ih =>
    have hlt : k < L.length := by omega
    have hg := List.getElem?_eq_getElem hlt
    rw [cnt_next L nm k _ hg, ih (by omega)]
    have hl : lacks (L.take (k + 1)) nm = (lacks (L.take k) nm && !same L[k].nm nm) := by
      unfold lacks
      rw [List.take_succ_eq_append_getElem hlt, List.all_append]
      simp
    rw [hl]
    cases hs : same L[k].nm nm
    · simp
    · have h1 : lacks (L.take k) nm = true := by
        have h0 := hd k _ hlt hg
        unfold lacks at h0 ⊢
        rw [List.all_eq_true] at h0 ⊢
        intro y hy
        have hy0 := h0 y hy
        cases hyn : same y.nm nm
        · rfl
        · rw [same_trans hyn (same_symm hs)] at hy0
          exact hy0
      simp [h1]
theorem at_self (L : List ACol) (hs : shapeOk L = true) (k : Nat) (c : ACol) (hc : L[k]? = some c) : shapeAt L c.nm = k := by
  rw [shapeAt, if_pos hs]
  exact (place_iff L k c hc).2 ((shape_firsts L hs).1 k c (List.getElem?_eq_some_iff.1 hc).1 hc)

theorem found (L : List ACol) (nm : ByteArray) (h : lacks L nm = false) : ∃ i, ∃ hi : i < L.length, same L[i].nm nm = true ∧ placeOf L nm = i := by
  cases hp : L.findIdx? (fun c => same c.nm nm) with
  | none =>
    rw [List.findIdx?_eq_none_iff] at hp
    have : lacks L nm = true := by
      unfold lacks
      rw [List.all_eq_true]
      intro y hy
      simp [hp y hy]
    rw [this] at h
    cases h
  | some i =>
    have hp' := hp
    rw [List.findIdx?_eq_some_iff_getElem] at hp
    obtain ⟨hi, hsm, _⟩ := hp
    exact ⟨i, hi, hsm, by simp [placeOf, hp']⟩

set_option maxRecDepth 100000 in
set_option maxHeartbeats 2000000 in
theorem law_find (x : Option Addr) (len cap : Nat) (w : World) (hlc : len ≤ cap) (hcap : cap ≤ maxLen) (hc : IsCode w.heap.size x len w) :
    Calls Try.prog 3 #[.slice x len cap] w fun e w' => e = .returned (.bool true) ∧ Below w.heap.size w w' := by
  have hcap' := hcap
  unfold maxLen at hcap'
  by_cases hl : (1048576 : Int) < len
  · go_enter Try.func3, Try.ntmps3
    go_wp2_with fail
    go_ret
    exact ⟨rfl, Below.refl _ _⟩
  · go_enter Try.func3, Try.ntmps3
    go_wp2_with fail
    refine (draw_at x len cap w hlc hcap hc).mono ?_
    rintro e w1 ⟨a, cp, L, nm, rfl, hL, hl6, hs, hnm, hb⟩
    have hf := small_fit hs
    have hm : L.length ≤ maxLen := by unfold maxLen; omega
    have hnm' : nm.size ≤ maxLen := by unfold maxLen; omega
    have H1 : Hid (ColsAt w1 a L ∧ Below w.heap.size w w1) := ⟨hL, hb⟩
    clear hL hb hc
    go_wp2_with fail
    refine (impl_at _ _ _ _ _ H1.out.1 hf hm hnm').mono ?_
    rintro e w2 ⟨rfl, hb⟩
    have H2 : Hid (ColsAt w2 a L ∧ Below w.heap.size w w2) := ⟨H1.out.1.keep hb, H1.out.2.trans (hb.mono H1.out.2.size)⟩
    clear H1 hb
    go_wp2_with fail
    refine (spec_at _ _ _ _ _ H2.out.1 hf hm).mono ?_
    rintro e w3 ⟨rfl, hb⟩
    have H3 : Hid (ColsAt w3 a L ∧ Below w.heap.size w w3) := ⟨H2.out.1.keep hb, H2.out.2.trans (hb.mono H2.out.2.size)⟩
    clear H2 hb
    go_wp2_with fail
    refine (spec_shape _ _ _ _ H3.out.1 hf hm).mono ?_
    rintro e w4 ⟨rfl, hb⟩
    have H4 : Hid (ColsAt w4 a L ∧ Below w.heap.size w w4) := ⟨H3.out.1.keep hb, H3.out.2.trans (hb.mono H3.out.2.size)⟩
    clear H3 hb
    cases hsh : shapeOk L
    · have hat : shapeAt L nm = -1 := by simp [shapeAt, hsh]
      rw [hat]
      go_wp2_with fail
      go_ret
      exact ⟨rfl, H4.out.2⟩
    · have hat : Hid (shapeAt L nm = placeOf L nm) := by show shapeAt L nm = placeOf L nm; simp [shapeAt, hsh]
      go_wp2_with fail
      go_loopw [6, 7] (fun n i wr => ∃ k : Nat, k ≤ L.length ∧ i = .int .i64 k ∧ n = .int .i64 (cntTo L nm k) ∧ Hid (cntTo L nm k ≤ k ∧ ColsAt wr a L ∧ Below w.heap.size w wr)) (fun _ i _ => L.length - (intOf i).toNat)
      case atStart => exact ⟨0, Nat.zero_le _, rfl, rfl, ⟨Nat.le_refl _, H4.out.1, H4.out.2⟩⟩
      case round =>
        obtain ⟨k, hk, rfl, rfl, hH⟩ := hrel
        clear H4
        by_cases hlt : k < L.length
        · obtain ⟨b, o, hab, hbl, hr⟩ := hH.out.2.1.at hlt
          have hck := List.getElem?_eq_getElem hlt
          have hft := hf _ (List.getElem_mem hlt)
          revert hr hck hft
          generalize L[k] = c
          intro hr hck hft
          have hix : ∀ wx, (Instr.indexAt 23 (.slice a L.length cp) (.int .i64 k)).run Try.prog wx = .ok (.pointer (some ⟨b, o + k * 7, none⟩)) wx := fun wx => by
            rw [hab]; exact run_ix _ _ _ _ _ _ _ wx hlt Try.underlying23 (Try.sizeOf31 wx)
          have hld := (cells7_of hr).1
          have hsf := at_self L hsh k c hck
          have hcn : Hid (cntTo L nm (k + 1) = cntTo L nm k + if same c.nm nm then 1 else 0) := cnt_next L nm k c hck
          have hcl := hH.out.1
          clear hab hr hck
          cases hsm : same c.nm nm
          · have hsm' : (c.nm.toList == nm.toList) = false := hsm
            go_wp2_with (go_at_call 5; refine (impl_at _ _ _ _ _ hH.out.2.1 hf hm hft.1).mono ?_; rintro e w' ⟨rfl, hb⟩; rw [hsf]; have HP : Hid (ColsAt w' a L ∧ Below w.heap.size w w') := ⟨hH.out.2.1.keep hb, hH.out.2.2.trans (hb.mono hH.out.2.2.size)⟩; clear hb)
            go_roundw
            case rel => exact ⟨k + 1, by omega, by go_num, by rw [hcn.out, hsm]; simp, ⟨by rw [hcn.out, hsm]; simp; omega, HP.out⟩⟩
            case measure => simp [intOf]; omega
          · have hsm' : (c.nm.toList == nm.toList) = true := hsm
            go_wp2_with (go_at_call 5; refine (impl_at _ _ _ _ _ hH.out.2.1 hf hm hft.1).mono ?_; rintro e w' ⟨rfl, hb⟩; rw [hsf]; have HP : Hid (ColsAt w' a L ∧ Below w.heap.size w w') := ⟨hH.out.2.1.keep hb, hH.out.2.2.trans (hb.mono hH.out.2.2.size)⟩; clear hb)
            go_roundw
            case rel => exact ⟨k + 1, by omega, by go_num, by rw [hcn.out, hsm]; simp, ⟨by rw [hcn.out, hsm]; simp; omega, HP.out⟩⟩
            case measure => simp [intOf]; omega
        · have hkl : k = L.length := by omega
          subst hkl
          have hcn := cnt_is L nm (shape_firsts L hsh).1 L.length (Nat.le_refl _)
          rw [List.take_length] at hcn
          cases hla : lacks L nm
          · obtain ⟨i, hi, hsm, hpl⟩ := found L nm hla
            rw [hla] at hcn
            have hcn1 : cntTo L nm L.length = 1 := hcn
            have hat1 : shapeAt L nm = (i : Int) := hat.out.trans hpl
            rw [hcn1, hat1]
            obtain ⟨b, o, hab, hbl, hr⟩ := hH.out.2.1.at hi
            revert hr hsm
            generalize L[i] = c
            intro hsm hr
            have hix : ∀ wx, (Instr.indexAt 23 (.slice a L.length cp) (.int .i64 i)).run Try.prog wx = .ok (.pointer (some ⟨b, o + i * 7, none⟩)) wx := fun wx => by
              rw [hab]; exact run_ix _ _ _ _ _ _ _ wx hi Try.underlying23 (Try.sizeOf31 wx)
            have hld := (cells7_of hr).1
            have hsm' : (c.nm.toList == nm.toList) = true := hsm
            have hi0 : ¬ (i : Int) < 0 := by omega
            have hi1 : (0 : Int) ≤ i := by omega
            clear hab hr hcn hcn1 hat1 hpl hat
            go_wp2_with fail
            go_ret
            exact ⟨rfl, hH.out.2.2⟩
          · rw [hla] at hcn
            have hcn1 : cntTo L nm L.length = 0 := hcn
            have hat1 : shapeAt L nm = -1 := hat.out.trans (place_none L nm hla)
            rw [hcn1, hat1]
            clear hcn hcn1 hat1 hat
            go_wp2_with fail
            go_ret
            exact ⟨rfl, hH.out.2.2⟩

end Go.Proofs.Ytbkojenjobabcaa
