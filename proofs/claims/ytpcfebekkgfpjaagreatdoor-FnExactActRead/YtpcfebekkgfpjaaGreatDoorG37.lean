/- The contract of spec.l5Words at a link, over the seat's translation. -/
import Derived.Test.YtpcfebekkgfpjaaGreatDoorArS13
import Derived.Test.YtpcfebekkgfpjaaGreatDoorG32
namespace Go.Proofs.YtpcfebekkgfpjaaGreatDoor
open Go.RowKit

theorem rd_link2 {verb nm z p l : ByteArray} {r : List ByteArray} {k : Int} (hp : (verb :: nm :: z :: r)[r.length + 1]? = some p) (hl : (verb :: nm :: z :: r)[r.length + 1 + 1]? = some l) (hk : ∀ q, howOk q = true → l.data.toList = howB q → k = q) (hv : verb.toList = [108, 105, 110, 107]) : ActRd (verb.data.toList :: nm.data.toList :: (z :: r).map (·.data.toList)) ⟨2, ⟨#[]⟩, 0, [], [], chg0, ⟨nm, z, p, k⟩⟩ := fun y hy e => by
  rw [ByteArray.toList_eq] at hv
  rcases act_inv hy e with h | h | h | h | h | h | h | h | h
  case inr.inl =>
    obtain ⟨_, h2, h3, h4, h5⟩ := h
    have h6 : z.data.toList = y.l.co.data.toList ∧ r.map (·.data.toList) = [y.l.tt.data.toList, howB y.l.hw] := by
      rw [List.map_cons, List.cons.injEq] at h4
      exact h4
    match r, hp, hl, h6 with
    | [], _, _, h6 => have := h6.2; simp at this
    | [_], _, _, h6 => have := congrArg List.length h6.2; simp at this
    | [a, b], hp, hl, h6 =>
      obtain ⟨x, e1, h7, h8⟩ := two_of h6.2
      cases e1
      simp at hp hl
      subst hp hl
      rw [h2, bytes_same h3, bytes_same h6.1, bytes_same h7, hk _ h5 h8]
    | _ :: _ :: _ :: _, _, _, h6 => have := congrArg List.length h6.2; simp at this
  all_goals exact absurd h.1 (by rw [hv]; decide)
/-- What is done, stored whole, as one step of a region that draws. -/
theorem step_st_act {ops : Array Oper} {o : Oper} {a : Act} {w : World} {K : Act → World → Prop} {Q : Exit → Act → World → Prop} {E : Prop} (hg : o.guard = none) (x y : Operand) (ho : o.op = .store 34 x y)
    (B : Nat) (hx : a.eval x = .pointer (some ⟨B, 0, none⟩)) (cs : List Value) (hy : a.eval y = .agg cs.toArray) (hl : cs.length = 19) (ht : w.there B 0 19) (h1 : ∀ v ∈ cs, v.oneCell' = true) (hK : K (a.put o.dst undef) (w.setCells B 0 cs)) :
    if Region.wanted o (yielded ops a.tmps) = true then Oper.wp Tryz.prog o a w K Q else E := by
  have hw : Region.wanted o (yielded ops a.tmps) = true := by simp [Region.wanted, hg]
  rw [if_pos hw]
  exact wp_store_mid _ x y ho B 0 cs.toArray hx hy (by simpa [hl] using ht) (by simp [act_size, hl]) (all_oneCell_toArray h1) (by simpa using hK)
/-- The words of a link lie there. -/
abbrev LnkS (w : World) (b o n : Nat) (verb nm z p l : ByteArray) (ws : List ByteArray) (W : World) : Prop :=
  W.cell? ⟨b, o + 1, none⟩ = some (.string nm) ∧ W.cell? ⟨b, o + 2, none⟩ = some (.string z) ∧ W.cell? ⟨b, o + (n + 1), none⟩ = some (.string p) ∧ W.cell? ⟨b, o + (n + 1 + 1), none⟩ = some (.string l) ∧
    Hid ((b < w.heap.size ∧ (verb :: nm :: ws)[n + 1]? = some p ∧ (verb :: nm :: ws)[n + 1 + 1]? = some l ∧ ws[0]? = some z) ∧ ∃ cs, cs.length = 19 ∧ WdS w (some ⟨b, o, none⟩) (verb :: nm :: ws) cs W)
theorem lnks_of {w : World} {b o n : Nat} {verb nm z p l : ByteArray} {ws : List ByteArray} {cs : List Value} {W : World} (h : WdS w (some ⟨b, o, none⟩) (verb :: nm :: ws) cs W) (hl : cs.length = 19) (hx : b < w.heap.size ∧ (verb :: nm :: ws)[n + 1]? = some p ∧ (verb :: nm :: ws)[n + 1 + 1]? = some l ∧ ws[0]? = some z) : LnkS w b o n verb nm z p l ws W :=
  ⟨h.word (i := 1) rfl, h.word (i := 2) (by simpa using hx.2.2.2), h.word hx.2.1, h.word hx.2.2.1, hx, cs, hl, h⟩
theorem lnks_next {w : World} {b o n : Nat} {verb nm z p l : ByteArray} {ws : List ByteArray} {W W' : World} (h : LnkS w b o n verb nm z p l ws W) (hb : Below W.heap.size W W') : LnkS w b o n verb nm z p l ws W' := by
  obtain ⟨_, _, _, _, hx, cs, hl, h3⟩ := h
  exact lnks_of (h3.next hb) hl hx

set_option maxRecDepth 100000 in
set_option maxHeartbeats 4000000 in
theorem spec_words_link (b o cap : Nat) (verb nm : ByteArray) (ws : List ByteArray) (w : World) (ha : StrsAt w (some ⟨b, o, none⟩) (verb :: nm :: ws)) (hbl : b < w.heap.size) (hcap : (verb :: nm :: ws).length ≤ cap) (hs : ∀ x ∈ verb :: nm :: ws, x.size ≤ 1048576) (hm : (verb :: nm :: ws).length ≤ 2000000) (hv : verb.toList = [108, 105, 110, 107]) :
    Calls Tryz.prog 38 #[.slice (some ⟨b, o, none⟩) (verb :: nm :: ws).length cap] w fun e w' => ∃ v, e = .returned v ∧ WordsRd w verb nm ws v w' := by
  have HW : Hid (WdS w (some ⟨b, o, none⟩) (verb :: nm :: ws) (doneL 0 nm 0 (.slice none 0 0) (.slice none 0 0) chg0) (((w.alloc (.cells zeros9.toArray 34)).alloc (.cells zeros9.toArray 34)).setCells (w.heap.size + 1) 0 (doneL 0 nm 0 (.slice none 0 0) (.slice none 0 0) chg0))) := wds_start w b o _ _ ha hbl rfl
  have hth : ((w.alloc (.cells zeros9.toArray 34)).alloc (.cells zeros9.toArray 34)).there (w.heap.size + 1) 0 19 := by
    have h := there_box (w.alloc (.cells zeros9.toArray 34)) zeros9 34 19 rfl
    rwa [size_alloc] at h
  have h1 := (by rcases ha with h | ⟨b', o', e, _, hr⟩; (cases h); (cases e; exact hr 1 nm rfl) : w.cell? ⟨b, o + 1, none⟩ = some (.string nm))
  have HS : Hid ((∀ x ∈ verb :: nm :: ws, x.size ≤ 1048576) ∧ (verb :: nm :: ws).length ≤ 2000000) := ⟨hs, hm⟩
  have v0 : (verb.toList == [116, 97, 98, 108, 101]) = false := by rw [hv]; rfl
  have v1 : (verb.toList == [112, 117, 116]) = false := by rw [hv]; rfl
  have v2 : (verb.toList == [115, 101, 116]) = false := by rw [hv]; rfl
  have v3 : (verb.toList == [111, 102, 102]) = false := by rw [hv]; rfl
  have v4 : (verb.toList == [97, 100, 100]) = false := by rw [hv]; rfl
  have v5 : (verb.toList == [100, 114, 111, 112]) = false := by rw [hv]; rfl
  have v6 : (verb.toList == [110, 97, 109, 101]) = false := by rw [hv]; rfl
  have v7 : (verb.toList == [107, 105, 110, 100]) = false := by rw [hv]; rfl
  have v8 : (verb.toList == [108, 105, 110, 107]) = true := by rw [hv]; rfl
  clear ha hs
  cases ws with
  | nil =>
    simp only [List.length_cons, List.length_nil] at hm hcap ⊢
    go_enter Tryz.func38, Tryz.ntmps38
    go_wp2_with (first | (refine st_act rfl _ _ rfl _ rfl (doneL 0 nm 0 (.slice none 0 0) (.slice none 0 0) chg0) rfl rfl hth (by simp [Value.oneCell']) ?_; generalize ((w.alloc (.cells zeros9.toArray 34)).alloc (.cells zeros9.toArray 34)).setCells (w.heap.size + 1) 0 (doneL 0 nm 0 (.slice none 0 0) (.slice none 0 0) chg0) = W1 at *; have h0 := HW.out.word (i := 0) rfl; rw [Nat.add_zero] at h0; have HX : Hid (WdS w (some ⟨b, o, none⟩) (verb :: nm :: ([] : List ByteArray)) (doneL 0 nm 0 (.slice none 0 0) (.slice none 0 0) chg0) W1) := HW; have hc0 := HW.out.cell (i := 0) rfl; have hf0 := HW.out.free (i := 0) (by omega)) | (first | (refine ld_act rfl _ rfl (w.heap.size + 1) rfl (doneL 0 nm 0 (.slice none 0 0) (.slice none 0 0) chg0) HX.out.ra rfl ?_) | (refine st_act rfl _ _ rfl w.heap.size rfl (doneL 0 nm 0 (.slice none 0 0) (.slice none 0 0) chg0) rfl rfl HX.out.rb (by simp [Value.oneCell']) ?_)))
    exact words_ret (x := ⟨0, nm, 0, [], [], chg0, lnk0⟩) HX.out (Nat.lt_succ_self _) (own_none9 _ _ _ _) (own_none9 _ _ _ _) ⟨fit0 (HS.out.1 nm (by simp)), ⟨fun _ h => by simp at h, Nat.zero_le _⟩, ⟨fun _ h => by simp at h, Nat.zero_le _⟩, nochg, nolnk⟩ (rd_short (by rw [hv]; decide) (by rw [hv]; decide)) rfl rfl
  | cons z r =>
    obtain ⟨l, hl⟩ : ∃ l, (verb :: nm :: z :: r)[r.length + 1 + 1]? = some l := ⟨_, List.getElem?_eq_getElem (by simp)⟩
    obtain ⟨p, hp⟩ : ∃ p, (verb :: nm :: z :: r)[r.length + 1]? = some p := ⟨_, List.getElem?_eq_getElem (by simp)⟩
    simp only [List.length_cons] at hm hcap ⊢
    have i0 : (0 : Int) < (r.length : Int) + 1 + 1 + 1 := by omega
    have i1 : (1 : Int) < (r.length : Int) + 1 + 1 + 1 := by omega
    have i2 : (2 : Int) < (r.length : Int) + 1 + 1 + 1 := by omega
    have i3 : ¬ ((r.length : Int) + 1 + 1 + 1 < 3) := by omega
    go_enter Tryz.func38, Tryz.ntmps38
    go_wp2_with (refine st_act rfl _ _ rfl _ rfl (doneL 0 nm 0 (.slice none 0 0) (.slice none 0 0) chg0) rfl rfl hth (by simp [Value.oneCell']) ?_; generalize ((w.alloc (.cells zeros9.toArray 34)).alloc (.cells zeros9.toArray 34)).setCells (w.heap.size + 1) 0 (doneL 0 nm 0 (.slice none 0 0) (.slice none 0 0) chg0) = W1 at *; have h0 := HW.out.word (i := 0) rfl; rw [Nat.add_zero] at h0; have hc0 := HW.out.cell (i := 0) rfl; have hf0 := HW.out.free (i := 0) (by omega); have hz := HW.out.word (i := 2) rfl)
    have hS0 : LnkS w b o r.length verb nm z p l (z :: r) W1 := lnks_of HW.out rfl ⟨hbl, hp, hl, rfl⟩
    have HW1 : Hid (WdS w (some ⟨b, o, none⟩) (verb :: nm :: z :: r) (doneL 0 nm 0 (.slice none 0 0) (.slice none 0 0) chg0) W1 ∧ p.size ≤ 1048576) := ⟨HW.out, HS.out.1 p (List.mem_of_getElem? hp)⟩
    clear HW h0 hc0 hf0 hz hth h1
    have hw1 : IntKind.i64.wrap ((r.length : Int) + 1 + 1) = (r.length : Int) + 1 + 1 := by
      rw [show ((r.length : Int) + 1 + 1) = ((r.length + 2 : Nat) : Int) by omega]
      simp [IntKind.wrap, IntKind.bits, IntKind.signed]
      omega
    have hw2 : IntKind.i64.wrap ((r.length : Int) + 1) = (r.length : Int) + 1 := by
      rw [show ((r.length : Int) + 1) = ((r.length + 1 : Nat) : Int) by omega]
      simp [IntKind.wrap, IntKind.bits, IntKind.signed]
      omega
    have hw3 : (r.length : Int) + 1 + 1 + 1 - 2 = (r.length : Int) + 1 := by omega
    have j4 : (r.length : Int) + 1 + 1 < (r.length : Int) + 1 + 1 + 1 := by omega
    have j5 : (0 : Int) ≤ (r.length : Int) + 1 + 1 := by omega
    have j6 : ((r.length : Int) + 1 + 1).toNat = r.length + 1 + 1 := by omega
    have k4 : (r.length : Int) + 1 < (r.length : Int) + 1 + 1 + 1 := by omega
    have k5 : (0 : Int) ≤ (r.length : Int) + 1 := by omega
    have k6 : ((r.length : Int) + 1).toNat = r.length + 1 := by omega
    refine wp_region_held_drew (S := fun W => LnkS w b o r.length verb nm z p l (z :: r) W) (by kernel_rfl) (lnks_next hS0 (Below.refl _ _).drew) (fun h7 => ?_)
    refine wpAnyH_take (i := 0) (v := ?_) rfl (by kernel_rfl) (by kernel_rfl) (by kernel_rfl) (fun _ _ _ h => h) (Or.inl ⟨by rfl, ?_⟩) h7 ?_
    rotate_left
    · intro w0 hSw
      obtain ⟨hs1, hs2, hs3, hs4, _⟩ := hSw
      go_simp
      try with_reducible rfl
    try simp only [Act.put, List.setIfInBounds_toArray]
    refine wpAnyH_take (i := 1) (v := ?_) rfl (by kernel_rfl) (by kernel_rfl) (by kernel_rfl) (fun _ _ _ h => h) (Or.inl ⟨by rfl, ?_⟩) h7 ?_
    rotate_left
    · intro w0 hSw
      obtain ⟨hs1, hs2, hs3, hs4, _⟩ := hSw
      go_simp
      try with_reducible rfl
    try simp only [Act.put]
    refine wpAnyH_take (i := 2) (v := ?_) rfl (by kernel_rfl) (by kernel_rfl) (by kernel_rfl) (fun _ _ _ h => h) (Or.inl ⟨by rfl, ?_⟩) h7 ?_
    rotate_left
    · intro w0 hSw
      obtain ⟨hs1, hs2, hs3, hs4, _⟩ := hSw
      go_simp
      try with_reducible rfl
    try simp only [Act.put]
    refine wpAnyH_take (i := 3) (v := ?_) rfl (by kernel_rfl) (by kernel_rfl) (by kernel_rfl) (fun _ _ _ h => h) (Or.inl ⟨by rfl, ?_⟩) h7 ?_
    rotate_left
    · intro w0 hSw
      obtain ⟨hs1, hs2, hs3, hs4, _⟩ := hSw
      go_simp
      try with_reducible rfl
    try simp only [Act.put]
    refine wpAnyH_take (i := 4) (v := ?_) rfl (by kernel_rfl) (by kernel_rfl) (by kernel_rfl) (fun _ _ _ h => h) (Or.inl ⟨by rfl, ?_⟩) h7 ?_
    rotate_left
    · intro w0 hSw
      obtain ⟨hs1, hs2, hs3, hs4, _⟩ := hSw
      go_simp
      try with_reducible rfl
    try simp only [Act.put]
    refine wpAnyH_take (i := 5) (v := ?_) rfl (by kernel_rfl) (by kernel_rfl) (by kernel_rfl) (fun _ _ _ h => h) (Or.inl ⟨by rfl, ?_⟩) h7 ?_
    rotate_left
    · intro w0 hSw
      obtain ⟨hs1, hs2, hs3, hs4, _⟩ := hSw
      go_simp
      try with_reducible rfl
    try simp only [Act.put]
    refine wpAnyH_take (i := 6) (v := ?_) rfl (by kernel_rfl) (by kernel_rfl) (by kernel_rfl) (fun _ _ _ h => h) (Or.inl ⟨by rfl, ?_⟩) h7 ?_
    rotate_left
    · intro w0 hSw
      obtain ⟨hs1, hs2, hs3, hs4, _⟩ := hSw
      go_simp
      try with_reducible rfl
    try simp only [Act.put]
    refine wpAnyH_take (i := 7) (v := ?_) rfl (by kernel_rfl) (by kernel_rfl) (by kernel_rfl) (fun _ _ _ h => h) (Or.inl ⟨by rfl, ?_⟩) h7 ?_
    rotate_left
    · intro w0 hSw
      obtain ⟨hs1, hs2, hs3, hs4, _⟩ := hSw
      go_simp
      try with_reducible rfl
    try simp only [Act.put]
    refine wpAnyH_take (i := 8) (v := ?_) rfl (by kernel_rfl) (by kernel_rfl) (by kernel_rfl) (fun _ _ _ h => h) (Or.inl ⟨by rfl, ?_⟩) h7 ?_
    rotate_left
    · intro w0 hSw
      obtain ⟨hs1, hs2, hs3, hs4, _⟩ := hSw
      go_simp
      try with_reducible rfl
    try simp only [Act.put]
    refine wpAnyH_take (i := 9) (v := ?_) rfl (by kernel_rfl) (by kernel_rfl) (by kernel_rfl) (fun _ _ _ h => h) (Or.inl ⟨by rfl, ?_⟩) h7 ?_
    rotate_left
    · intro w0 hSw
      obtain ⟨hs1, hs2, hs3, hs4, _⟩ := hSw
      go_simp
      try with_reducible rfl
    try simp only [Act.put]
    refine wpAnyH_take (i := 10) (v := ?_) rfl (by kernel_rfl) (by kernel_rfl) (by kernel_rfl) (fun _ _ _ h => h) (Or.inl ⟨by rfl, ?_⟩) h7 ?_
    rotate_left
    · intro w0 hSw
      obtain ⟨hs1, hs2, hs3, hs4, _⟩ := hSw
      go_simp
      try with_reducible rfl
    try simp only [Act.put]
    refine wpAnyH_take (i := 11) (v := ?_) rfl (by kernel_rfl) (by kernel_rfl) (by kernel_rfl) (fun _ _ _ h => h) (Or.inl ⟨by rfl, ?_⟩) h7 ?_
    rotate_left
    · intro w0 hSw
      obtain ⟨hs1, hs2, hs3, hs4, _⟩ := hSw
      go_simp
      try with_reducible rfl
    try simp only [Act.put]
    refine wpAnyH_take (i := 12) (v := ?_) rfl (by kernel_rfl) (by kernel_rfl) (by kernel_rfl) (fun _ _ _ h => h) (Or.inl ⟨by rfl, ?_⟩) h7 ?_
    rotate_left
    · intro w0 hSw
      obtain ⟨hs1, hs2, hs3, hs4, _⟩ := hSw
      go_simp
      try with_reducible rfl
    try simp only [Act.put]
    refine wpAnyH_take (i := 13) (v := ?_) rfl (by kernel_rfl) (by kernel_rfl) (by kernel_rfl) (fun _ _ _ h => h) (Or.inl ⟨by rfl, ?_⟩) h7 ?_
    rotate_left
    · intro w0 hSw
      obtain ⟨hs1, hs2, hs3, hs4, _⟩ := hSw
      go_simp
      try with_reducible rfl
    try simp only [Act.put]
    refine wpAnyH_take (i := 14) (v := ?_) rfl (by kernel_rfl) (by kernel_rfl) (by kernel_rfl) (fun _ _ _ h => h) (Or.inl ⟨by rfl, ?_⟩) h7 ?_
    rotate_left
    · intro w0 hSw
      obtain ⟨hs1, hs2, hs3, hs4, _⟩ := hSw
      go_simp
      try with_reducible rfl
    try simp only [Act.put]
    refine wpAnyH_take (i := 15) (v := ?_) rfl (by kernel_rfl) (by kernel_rfl) (by kernel_rfl) (fun _ _ _ h => h) (Or.inl ⟨by rfl, ?_⟩) h7 ?_
    rotate_left
    · intro w0 hSw
      obtain ⟨hs1, hs2, hs3, hs4, _⟩ := hSw
      go_simp
      try with_reducible rfl
    try simp only [Act.put]
    refine wpAnyH_take (i := 16) (v := ?_) rfl (by kernel_rfl) (by kernel_rfl) (by kernel_rfl) (fun _ _ _ h => h) (Or.inl ⟨by rfl, ?_⟩) h7 ?_
    rotate_left
    · intro w0 hSw
      obtain ⟨hs1, hs2, hs3, hs4, _⟩ := hSw
      go_simp
      try with_reducible rfl
    try simp only [Act.put]
    refine wpAnyH_take (i := 17) (v := ?_) rfl (by kernel_rfl) (by kernel_rfl) (by kernel_rfl) (fun _ _ _ h => h) (Or.inl ⟨by rfl, ?_⟩) h7 ?_
    rotate_left
    · intro w0 hSw
      obtain ⟨hs1, hs2, hs3, hs4, _⟩ := hSw
      go_simp
      try with_reducible rfl
    try simp only [Act.put]
    refine wpAnyH_ready (rs := [18]) (by kernel_rfl) (by simp) ?_
    refine AllReadyH.cons rfl (fun K hK => ?_) AllReadyH.nil
    go_simp
    refine (spec_read_how l _).mono ?_
    rintro e w5 ⟨k, rfl, hb, hk⟩
    have HK : Hid (∀ q, howOk q = true → l.data.toList = howB q → k = q) := hk
    have H5 : Hid (WdS w (some ⟨b, o, none⟩) (verb :: nm :: z :: r) (doneL 0 nm 0 (.slice none 0 0) (.slice none 0 0) chg0) w5) := (HW1.out.1.next (Below.refl _ _).drew).next hb
    have hS5 : LnkS w b o r.length verb nm z p l (z :: r) w5 := lnks_of H5.out rfl ⟨hbl, hp, hl, rfl⟩
    refine hK.out _ _ hS5 (fun h9 => ?_)
    clear hK K hb hk h7
    try simp only [Act.put, List.setIfInBounds_toArray, List.set_cons_zero, List.set_cons_succ]
    refine wpAnyH_ready (rs := [19]) (by kernel_rfl) (by simp) ?_
    refine AllReadyH.cons rfl (fun K hK => ?_) AllReadyH.nil
    go_simp
    refine hK.out _ _ hS5 (fun _ => ?_)
    clear hK K
    try simp only [Act.put, List.setIfInBounds_toArray, List.set_cons_zero, List.set_cons_succ]
    refine wpAnyH_ready (rs := [20]) (by kernel_rfl) (by simp) ?_
    refine AllReadyH.cons rfl (fun K hK => ?_) AllReadyH.nil
    go_simp
    refine hK.out _ _ hS5 (fun _ => ?_)
    clear hK K
    try simp only [Act.put, List.setIfInBounds_toArray, List.set_cons_zero, List.set_cons_succ]
    refine wpAnyH_ready (rs := [21]) (by kernel_rfl) (by simp) ?_
    refine AllReadyH.cons rfl (fun K hK => ?_) AllReadyH.nil
    have HX : Hid (WdS w (some ⟨b, o, none⟩) (verb :: nm :: z :: r) [.int .i64 2, .string ⟨#[]⟩, .int .i64 0, .slice none 0 0, .slice none 0 0, .int .i64 0, .string ⟨#[]⟩, .string ⟨#[]⟩, .string ⟨#[]⟩, .int .i64 0, .bool false, .bool false, .int .i64 0, .int .i64 0, .string ⟨#[]⟩, .string nm, .string z, .string p, .int .i64 k] (w5.setCells (w.heap.size + 1) 0 [.int .i64 2, .string ⟨#[]⟩, .int .i64 0, .slice none 0 0, .slice none 0 0, .int .i64 0, .string ⟨#[]⟩, .string ⟨#[]⟩, .string ⟨#[]⟩, .int .i64 0, .bool false, .bool false, .int .i64 0, .int .i64 0, .string ⟨#[]⟩, .string nm, .string z, .string p, .int .i64 k])) := WdS.sets hbl [.int .i64 2, .string ⟨#[]⟩, .int .i64 0, .slice none 0 0, .slice none 0 0, .int .i64 0, .string ⟨#[]⟩, .string ⟨#[]⟩, .string ⟨#[]⟩, .int .i64 0, .bool false, .bool false, .int .i64 0, .int .i64 0, .string ⟨#[]⟩, .string nm, .string z, .string p, .int .i64 k] _ 0 _ H5.out (Nat.le_of_ble_eq_true rfl) rfl
    refine step_st_act rfl _ _ rfl (w.heap.size + 1) rfl [.int .i64 2, .string ⟨#[]⟩, .int .i64 0, .slice none 0 0, .slice none 0 0, .int .i64 0, .string ⟨#[]⟩, .string ⟨#[]⟩, .string ⟨#[]⟩, .int .i64 0, .bool false, .bool false, .int .i64 0, .int .i64 0, .string ⟨#[]⟩, .string nm, .string z, .string p, .int .i64 k] rfl rfl H5.out.th (by simp [Value.oneCell']) ?_
    refine hK.out _ _ (lnks_of HX.out rfl ⟨hbl, hp, hl, rfl⟩) (fun _ => ?_)
    clear hK K hS5 H5
    generalize w5.setCells (w.heap.size + 1) 0 [.int .i64 2, .string ⟨#[]⟩, .int .i64 0, .slice none 0 0, .slice none 0 0, .int .i64 0, .string ⟨#[]⟩, .string ⟨#[]⟩, .string ⟨#[]⟩, .int .i64 0, .bool false, .bool false, .int .i64 0, .int .i64 0, .string ⟨#[]⟩, .string nm, .string z, .string p, .int .i64 k] = w6 at *
    try simp only [Act.put, List.setIfInBounds_toArray]
    refine wpAnyH_done (by kernel_rfl) ?_ _
    have HZ : Hid (nm.size ≤ maxLen ∧ z.size ≤ maxLen ∧ p.size ≤ maxLen) := ⟨fit0 (HS.out.1 nm (by simp)), fit0 (HS.out.1 z (by simp)), fit0 HW1.out.2⟩
    go_wp2_with (first | (refine ld_act rfl _ rfl (w.heap.size + 1) rfl [.int .i64 2, .string ⟨#[]⟩, .int .i64 0, .slice none 0 0, .slice none 0 0, .int .i64 0, .string ⟨#[]⟩, .string ⟨#[]⟩, .string ⟨#[]⟩, .int .i64 0, .bool false, .bool false, .int .i64 0, .int .i64 0, .string ⟨#[]⟩, .string nm, .string z, .string p, .int .i64 k] HX.out.ra rfl ?_) | (refine st_act rfl _ _ rfl w.heap.size rfl [.int .i64 2, .string ⟨#[]⟩, .int .i64 0, .slice none 0 0, .slice none 0 0, .int .i64 0, .string ⟨#[]⟩, .string ⟨#[]⟩, .string ⟨#[]⟩, .int .i64 0, .bool false, .bool false, .int .i64 0, .int .i64 0, .string ⟨#[]⟩, .string nm, .string z, .string p, .int .i64 k] rfl rfl HX.out.rb (by simp [Value.oneCell']) ?_))
    exact words_ret (x := ⟨2, ⟨#[]⟩, 0, [], [], chg0, ⟨nm, z, p, k⟩⟩) HX.out (Nat.lt_succ_self _) (own_none9 _ _ _ _) (own_none9 _ _ _ _) ⟨Nat.zero_le _, ⟨fun _ h => by simp at h, Nat.zero_le _⟩, ⟨fun _ h => by simp at h, Nat.zero_le _⟩, nochg, HZ.out⟩ (rd_link2 hp hl HK.out hv) rfl rfl

end Go.Proofs.YtpcfebekkgfpjaaGreatDoor

/- The contract of spec.l5Words at any words, over the seat's translation. -/
namespace Go.Proofs.YtpcfebekkgfpjaaGreatDoor
open Go.RowKit

theorem spec_words (b o cap : Nat) (verb nm : ByteArray) (ws : List ByteArray) (w : World) (ha : StrsAt w (some ⟨b, o, none⟩) (verb :: nm :: ws)) (hbl : b < w.heap.size) (hcap : (verb :: nm :: ws).length ≤ cap) (hs : ∀ x ∈ verb :: nm :: ws, x.size ≤ 1048576) (hm : (verb :: nm :: ws).length ≤ 2000000) :
    Calls Tryz.prog 38 #[.slice (some ⟨b, o, none⟩) (verb :: nm :: ws).length cap] w fun e w' => ∃ v, e = .returned v ∧ WordsRd w verb nm ws v w' := by
  by_cases h0 : verb.toList = [116, 97, 98, 108, 101]
  · exact spec_words_table b o cap verb nm ws w ha hbl hcap hs hm h0
  by_cases h1 : verb.toList = [112, 117, 116]
  · exact spec_words_put b o cap verb nm ws w ha hbl hcap hs hm h1
  by_cases h2 : verb.toList = [115, 101, 116]
  · exact spec_words_set b o cap verb nm ws w ha hbl hcap hs hm h2
  by_cases h3 : verb.toList = [111, 102, 102]
  · exact spec_words_off b o cap verb nm ws w ha hbl hcap hs hm h3
  by_cases h4 : verb.toList = [97, 100, 100]
  · exact spec_words_add b o cap verb nm ws w ha hbl hcap hs hm h4
  by_cases h5 : verb.toList = [100, 114, 111, 112]
  · exact spec_words_drop b o cap verb nm ws w ha hbl hcap hs hm h5
  by_cases h6 : verb.toList = [110, 97, 109, 101]
  · exact spec_words_name b o cap verb nm ws w ha hbl hcap hs hm h6
  by_cases h7 : verb.toList = [107, 105, 110, 100]
  · exact spec_words_kind b o cap verb nm ws w ha hbl hcap hs hm h7
  by_cases h8 : verb.toList = [108, 105, 110, 107]
  · exact spec_words_link b o cap verb nm ws w ha hbl hcap hs hm h8
  exact spec_words_other b o cap verb nm ws w ha hbl hcap hs hm (beq_eq_false_iff_ne.2 h0) (beq_eq_false_iff_ne.2 h1) (beq_eq_false_iff_ne.2 h2) (beq_eq_false_iff_ne.2 h3) (beq_eq_false_iff_ne.2 h4) (beq_eq_false_iff_ne.2 h5) (beq_eq_false_iff_ne.2 h6) (beq_eq_false_iff_ne.2 h7) (beq_eq_false_iff_ne.2 h8)

end Go.Proofs.YtpcfebekkgfpjaaGreatDoor

/- The contract of spec.ActRead, over the seat's translation. -/
namespace Go.Proofs.YtpcfebekkgfpjaaGreatDoor
open Go.RowKit

theorem deed_deed {y : AAct} : deedAct (deedAct y) = deedAct y := by
  by_cases h1 : y.kd = 1
  · have e : deedAct y = ⟨1, y.nm, 0, [], y.cols, chg0, lnk0⟩ := by unfold deedAct; rw [if_pos h1]
    rw [e]; rfl
  by_cases h2 : y.kd = 2
  · have e : deedAct y = ⟨2, ⟨#[]⟩, 0, [], [], chg0, y.l⟩ := by unfold deedAct; rw [if_neg h1, if_pos h2]
    rw [e]; rfl
  by_cases h3 : y.kd = 3
  · have e : deedAct y = ⟨3, y.nm, 0, y.sets, [], chg0, lnk0⟩ := by unfold deedAct; rw [if_neg h1, if_neg h2, if_pos h3]
    rw [e]; rfl
  by_cases h4 : y.kd = 4
  · have e : deedAct y = ⟨4, y.nm, y.id, y.sets, [], chg0, lnk0⟩ := by unfold deedAct; rw [if_neg h1, if_neg h2, if_neg h3, if_pos h4]
    rw [e]; rfl
  by_cases h5 : y.kd = 5
  · have e : deedAct y = ⟨5, y.nm, y.id, [], [], chg0, lnk0⟩ := by unfold deedAct; rw [if_neg h1, if_neg h2, if_neg h3, if_neg h4, if_pos h5]
    rw [e]; rfl
  by_cases g1 : y.g.kd = 1
  · have e : deedAct y = ⟨6, y.nm, 0, [], [], ⟨1, ⟨#[]⟩, ⟨#[]⟩, y.g.c⟩, lnk0⟩ := by unfold deedAct; rw [if_neg h1, if_neg h2, if_neg h3, if_neg h4, if_neg h5, if_pos g1]
    rw [e]; rfl
  by_cases g2 : y.g.kd = 2
  · have e : deedAct y = ⟨6, y.nm, 0, [], [], ⟨2, y.g.nm, ⟨#[]⟩, colK 0⟩, lnk0⟩ := by unfold deedAct; rw [if_neg h1, if_neg h2, if_neg h3, if_neg h4, if_neg h5, if_neg g1, if_pos g2]
    rw [e]; rfl
  by_cases g3 : y.g.kd = 3
  · have e : deedAct y = ⟨6, y.nm, 0, [], [], ⟨3, y.g.nm, y.g.nw, colK 0⟩, lnk0⟩ := by unfold deedAct; rw [if_neg h1, if_neg h2, if_neg h3, if_neg h4, if_neg h5, if_neg g1, if_neg g2, if_pos g3]
    rw [e]; rfl
  · have e : deedAct y = ⟨6, y.nm, 0, [], [], ⟨4, y.g.nm, ⟨#[]⟩, colK y.g.c.kd⟩, lnk0⟩ := by unfold deedAct; rw [if_neg h1, if_neg h2, if_neg h3, if_neg h4, if_neg h5, if_neg g1, if_neg g2, if_neg g3]
    rw [e]; rfl
theorem bytes_list {s t : ByteArray} (h : s.toList = t.toList) : s = t := bytes_same (by simpa [ByteArray.toList_eq] using h)
theorem eqc_eq {c d : ACol} (h : eqC c d = true) : c = d := by
  simp only [eqC, Bool.and_eq_true, beq_iff_eq] at h
  obtain ⟨h1, h2, h3, h4, h5, h6, h7⟩ := h
  cases c; cases d
  simp only at h1 h2 h3 h4 h5 h6 h7
  rw [bytes_list h1, h2, h3, h4, h5, h6, bytes_list h7]
theorem eqs_eq {c d : ASet} (h : eqS c d = true) : c = d := by
  simp only [eqS, Bool.and_eq_true, beq_iff_eq] at h
  obtain ⟨h1, h2, h3, h4⟩ := h
  cases c; cases d
  simp only at h1 h2 h3 h4
  rw [bytes_list h1, h2, h3, bytes_list h4]
theorem eqx_eq {c d : AChg} (h : eqX c d = true) : c = d := by
  simp only [eqX, Bool.and_eq_true, beq_iff_eq] at h
  obtain ⟨h1, h2, h3, h4⟩ := h
  cases c; cases d
  simp only at h1 h2 h3 h4
  rw [h1, bytes_list h2, bytes_list h3, eqc_eq h4]
theorem eqk_eq {c d : ALnk} (h : eqK c d = true) : c = d := by
  simp only [eqK, Bool.and_eq_true, beq_iff_eq] at h
  obtain ⟨h1, h2, h3, h4⟩ := h
  cases c; cases d
  simp only at h1 h2 h3 h4
  rw [bytes_list h1, bytes_list h2, bytes_list h3, h4]
theorem sets_eq {L M : List ASet} (h : setsSame L M = true) : L = M := by
  simp only [setsSame, Bool.and_eq_true, decide_eq_true_eq, sameToS, List.all_eq_true, List.mem_range] at h
  refine List.ext_getElem h.1 fun i h1 h2 => ?_
  have := h.2 i h1
  rw [List.getElem?_eq_getElem h1, List.getElem?_eq_getElem h2] at this
  exact eqs_eq this
theorem cols_eq {L M : List ACol} (h : colsSame L M = true) : L = M := by
  simp only [colsSame, Bool.and_eq_true, decide_eq_true_eq, sameToC, List.all_eq_true, List.mem_range] at h
  refine List.ext_getElem h.1 fun i h1 h2 => ?_
  have := h.2 i h1
  rw [List.getElem?_eq_getElem h1, List.getElem?_eq_getElem h2] at this
  exact eqc_eq this
theorem act_eq {x y : AAct} (h : actSame x y = true) : x = y := by
  simp only [actSame, Bool.and_eq_true, beq_iff_eq] at h
  obtain ⟨h1, h2, h3, h4, h5, h6, h7⟩ := h
  cases x; cases y
  simp only at h1 h2 h3 h4 h5 h6 h7
  rw [h1, bytes_list h2, h3, sets_eq h4, cols_eq h5, eqx_eq h6, eqk_eq h7]
theorem act_ok9 {x : AAct} (h : implAct x = true) : implDeed x = true ∧ deedAct x = x := by
  unfold implAct at h
  rw [Bool.and_eq_true] at h
  exact ⟨h.1, act_eq h.2⟩
theorem deed_ok {y : AAct} (h : implDeed y = true) : implAct (deedAct y) = true := by
  unfold implAct
  rw [(deed_kind h).1, deed_deed]
  simp only [Bool.true_and, actSame, beq_self_eq_true, setsSame_refl, colsSame_refl, eqX_refl, eqK_refl]

end Go.Proofs.YtpcfebekkgfpjaaGreatDoor
