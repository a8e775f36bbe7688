/- The contract of spec.ActText at a table, and at all that is right, over the seat's translation. -/
import Derived.Test.YtpcfebekkgfpjaaGreatDoorG31
import Derived.Test.YtpcfebekkgfpjaaGreatDoorG15
import Derived.Test.YtpcfebekkgfpjaaGreatDoorG18
namespace Go.Proofs.YtpcfebekkgfpjaaGreatDoor
open Go.RowKit

/-- Columns, each with a space ahead. -/
def colsB (L : List ACol) : Bs := L.flatMap fun c => 32 :: colW c
theorem join_cols (v n : Bs) (L : List ACol) : joinB 32 (v :: n :: L.map colW) = v ++ 32 :: (n ++ colsB L) := by
  have key : ∀ (M : List ACol) (m : Bs), joinB 32 (m :: M.map colW) = m ++ colsB M := fun M => by
    induction M with
    | nil => intro m; simp [joinB, colsB]
    | cons c M ih =>
      intro m
      show m ++ 32 :: joinB 32 (colW c :: M.map colW) = _
      rw [ih]
      rfl
  show v ++ 32 :: joinB 32 (n :: L.map colW) = _
  rw [key]
theorem cols_cells {W : World} {b o k : Nat} {L : List ACol} {c : ACol} (h : ColsAt W (some ⟨b, o, none⟩) L) (hc : L[k]? = some c) : W.rangeAt b (o + k * 7) c.cells := by
  obtain ⟨hk, rfl⟩ := List.getElem?_eq_some_iff.1 hc
  obtain ⟨b', o', e, _, hr⟩ := h.at hk
  cases e
  exact hr

set_option maxRecDepth 100000 in
set_option maxHeartbeats 4000000 in
theorem stext1 (x : AAct) (a0 a1 : Option Addr) (c0 c1 : Nat) (w : World) (hT : ActAt w a0 a1 x) (hf : x.fit) (hok : specAct x = true) (hd : implDeed x = true) (htab : Tb w) (hkd : (x.kd == 1) = true) :
    Calls Tryz.prog 8 #[.agg #[.int .i64 x.kd, .string x.nm, .int .i64 x.id, .slice a0 x.sets.length c0, .slice a1 x.cols.length c1, .int .i64 x.g.kd, .string x.g.nm, .string x.g.nw, .string x.g.c.nm, .int .i64 x.g.c.kd, .bool x.g.c.nd, .bool x.g.c.oc, .int .i64 x.g.c.k, .int .i64 x.g.c.n, .string x.g.c.s, .string x.l.fr, .string x.l.co, .string x.l.tt, .int .i64 x.l.hw]] w fun e w' => ∃ y, e = .returned (.string y) ∧ y.data.toList = actT x ∧ Below w.heap.size w w' := by
  have k1 : (x.kd == 1) = true := by simp [beq_iff_eq.1 hkd]
  have k2 : (x.kd == 2) = false := by simp [beq_iff_eq.1 hkd]
  have k3 : (x.kd == 3) = false := by simp [beq_iff_eq.1 hkd]
  have k4 : (x.kd == 4) = false := by simp [beq_iff_eq.1 hkd]
  have k5 : (x.kd == 5) = false := by simp [beq_iff_eq.1 hkd]
  have k6 : (x.kd == 6) = false := by simp [beq_iff_eq.1 hkd]
  have HS : Hid (DeedIn w x a0 c0 a1 c1 (w.alloc (.cells #[.int .i64 x.kd, .string x.nm, .int .i64 x.id, .slice a0 x.sets.length c0, .slice a1 x.cols.length c1, .int .i64 x.g.kd, .string x.g.nm, .string x.g.nw, .string x.g.c.nm, .int .i64 x.g.c.kd, .bool x.g.c.nd, .bool x.g.c.oc, .int .i64 x.g.c.k, .int .i64 x.g.c.n, .string x.g.c.s, .string x.l.fr, .string x.l.co, .string x.l.tt, .int .i64 x.l.hw] 34))) := DeedIn.start x a0 a1 c0 c1 w hT
  have hR : (w.alloc (.cells #[.int .i64 x.kd, .string x.nm, .int .i64 x.id, .slice a0 x.sets.length c0, .slice a1 x.cols.length c1, .int .i64 x.g.kd, .string x.g.nm, .string x.g.nw, .string x.g.c.nm, .int .i64 x.g.c.kd, .bool x.g.c.nd, .bool x.g.c.oc, .int .i64 x.g.c.k, .int .i64 x.g.c.n, .string x.g.c.s, .string x.l.fr, .string x.l.co, .string x.l.tt, .int .i64 x.l.hw] 34)).rangeAt w.heap.size 0 [.int .i64 x.kd, .string x.nm, .int .i64 x.id, .slice a0 x.sets.length c0, .slice a1 x.cols.length c1, .int .i64 x.g.kd, .string x.g.nm, .string x.g.nw, .string x.g.c.nm, .int .i64 x.g.c.kd, .bool x.g.c.nd, .bool x.g.c.oc, .int .i64 x.g.c.k, .int .i64 x.g.c.n, .string x.g.c.s, .string x.l.fr, .string x.l.co, .string x.l.tt, .int .i64 x.l.hw] := HS.out.1.1
  have HF : Hid (x.fit ∧ Tb w ∧ implDeed x = true) := ⟨hf, htab, hd⟩
  have HOK : Hid (specAct x = true) := hok
  clear hT hf hok hd htab
  go_enter Tryz.func8, Tryz.ntmps8
  go_wp2_with (refine ld_act rfl _ rfl _ rfl _ hR rfl ?_)
  refine (spec_act x a0 a1 c0 c1 _ HS.out.2 HF.out.1).mono ?_
  rintro e w1 ⟨rfl, hb⟩
  rw [HOK.out]
  have HS1 : Hid (DeedIn w x a0 c0 a1 c1 w1) := HS.out.next hb
  clear hb HS hR
  have y0 := HS1.out.1.1 0 _ rfl
  have hI := HF.out.2.2
  unfold implDeed at hI
  simp only [beq_iff_eq.1 hkd, Int.reduceEq, if_false, if_true, Bool.and_eq_true, decide_eq_true_eq, List.all_eq_true] at hI
  have hn := name_le hI.1
  have HC : Hid ((∀ c ∈ x.cols, c.ok = true) ∧ x.cols.length ≤ 5) := ⟨hI.2.2.2, hI.2.2.1⟩
  have y1 := HS1.out.1.1 1 _ rfl
  clear hI
  go_wp2_with fail
  clear y0 y1
  go_loopw [3, 4] (fun v0 i wr => ∃ (k : Nat) (y : ByteArray), v0 = .string y ∧ k ≤ x.cols.length ∧ i = .int .i64 k ∧ y.size ≤ 10 + k * 21 ∧ Hid (y.data.toList = [116, 97, 98, 108, 101, 32] ++ (x.nm.data.toList ++ colsB (x.cols.take k)) ∧ DeedIn w x a0 c0 a1 c1 wr)) (fun _ i _ => x.cols.length - (intOf i).toNat)
  case atStart => exact ⟨0, _, rfl, Nat.zero_le _, rfl, by simp only [ByteArray.size_append]; have e : (⟨#[116, 97, 98, 108, 101, 32]⟩ : ByteArray).size = 6 := rfl; omega, ⟨by simp [colsB], HS1.out⟩⟩
  case round =>
    obtain ⟨k, y, rfl, hk, rfl, hy, hH⟩ := hrel
    have y4 := hH.out.2.1.1 4 _ rfl
    by_cases hlt : k < x.cols.length
    · obtain ⟨b, o, hab, hbl, hr⟩ := hH.out.2.2.2.at hlt
      have hc := List.getElem?_eq_getElem hlt
      have hck := HC.out.1 _ (List.getElem_mem hlt)
      revert hr hc hck
      generalize x.cols[k] = c
      intro hr hc hck
      subst hab
      have hix : ∀ wx, (Instr.indexAt 24 (.slice (some ⟨b, o, none⟩) x.cols.length c1) (.int .i64 k)).run Tryz.prog wx = .ok (.pointer (some ⟨b, o + k * 7, none⟩)) wx := fun wx => run_ix _ _ _ _ _ _ _ wx hlt Tryz.underlying24 (Tryz.sizeOf28 wx)
      have hcl := col_len hck
      obtain ⟨t, ht, hts⟩ : ∃ t : ByteArray, t.data.toList = colW c ∧ t.size ≤ 20 := ⟨⟨(colW c).toArray⟩, by simp, by show (colW c).toArray.size ≤ 20; simpa using hcl⟩
      have HT : Hid (t.data.toList = colW c ∧ c.ok = true ∧ x.cols[k]? = some c ∧ y.data.toList = [116, 97, 98, 108, 101, 32] ++ (x.nm.data.toList ++ colsB (x.cols.take k))) := ⟨ht, hck, hc, hH.out.1⟩
      have HD : Hid (DeedIn w x a0 c0 (some ⟨b, o, none⟩) c1 wr) := hH.out.2
      have hkl := HC.out.2
      have hrr := cols_cells HD.out.2.2 HT.out.2.2.1
      have z0 := hrr 0 _ rfl
      have z1 := hrr 1 _ rfl
      have z2 := hrr 2 _ rfl
      have z3 := hrr 3 _ rfl
      have z4 := hrr 4 _ rfl
      have z5 := hrr 5 _ rfl
      have z6 := hrr 6 _ rfl
      rw [Nat.add_zero] at z0
      clear hrr hr hc hck ht hcl hbl hH
      have hyb : y.size ≤ 200 := by omega
      go_wp2_with fail
      refine (spec_col_word c _ HT.out.2.1 (tb_next HF.out.2.1 HD.out.1.2.2)).mono ?_
      rintro e w2 ⟨u, rfl, hu, hb⟩
      rw [bytes_same (hu.trans HT.out.1.symm)]
      have HZ : Hid (DeedIn w x a0 c0 (some ⟨b, o, none⟩) c1 w2) := HD.out.next hb
      clear hu hb HD z0 z1 z2 z3 z4 z5 z6 y4
      go_wp2_with fail
      go_roundw
      case rel =>
        refine ⟨k + 1, _, rfl, by omega, by go_num, ?_, ⟨?_, HZ.out⟩⟩
        · simp only [ByteArray.size_append]
          have e1 : (⟨#[32]⟩ : ByteArray).size = 1 := rfl
          omega
        · obtain ⟨hk2, e⟩ := List.getElem?_eq_some_iff.1 HT.out.2.2.1
          rw [List.take_succ_eq_append_getElem hk2, e]
          simp [colsB, HT.out.2.2.2, HT.out.1]
      case measure => simp [intOf]; omega
    · have hkl : k = x.cols.length := by omega
      subst hkl
      go_wp2_with fail
      go_ret
      refine ⟨y, rfl, ?_, hH.out.2.1.2.2⟩
      rw [hH.out.1, List.take_length]
      unfold actT actW
      rw [if_pos (beq_iff_eq.1 hkd), join_cols]
      rfl

theorem spec_act_text (x : AAct) (a0 a1 : Option Addr) (c0 c1 : Nat) (w : World) (hT : ActAt w a0 a1 x) (hf : x.fit) (hok : specAct x = true) (hd : implDeed x = true) (htab : Tb w) :
    Calls Tryz.prog 8 #[.agg #[.int .i64 x.kd, .string x.nm, .int .i64 x.id, .slice a0 x.sets.length c0, .slice a1 x.cols.length c1, .int .i64 x.g.kd, .string x.g.nm, .string x.g.nw, .string x.g.c.nm, .int .i64 x.g.c.kd, .bool x.g.c.nd, .bool x.g.c.oc, .int .i64 x.g.c.k, .int .i64 x.g.c.n, .string x.g.c.s, .string x.l.fr, .string x.l.co, .string x.l.tt, .int .i64 x.l.hw]] w fun e w' => ∃ y, e = .returned (.string y) ∧ y.data.toList = actT x ∧ Below w.heap.size w w' := by
  cases h1 : (x.kd == 1)
  case true => exact stext1 x a0 a1 c0 c1 w hT hf hok hd htab h1
  cases h2 : (x.kd == 2)
  case true => exact stext2 x a0 a1 c0 c1 w hT hf hok hd htab h2
  cases h3 : (x.kd == 3)
  case true => exact stext3 x a0 a1 c0 c1 w hT hf hok hd htab h3
  cases h4 : (x.kd == 4)
  case true => exact stext4 x a0 a1 c0 c1 w hT hf hok hd htab h4
  cases h5 : (x.kd == 5)
  case true => exact stext5 x a0 a1 c0 c1 w hT hf hok hd htab h5
  cases h6 : (x.kd == 6)
  case true => exact stext6 x a0 a1 c0 c1 w hT hf hok hd htab h6
  simp only [beq_eq_false_iff_ne] at h1 h2 h3 h4 h5 h6
  simp [implDeed, h1, h2, h3, h4, h5, h6] at hd

end Go.Proofs.YtpcfebekkgfpjaaGreatDoor

/- The contract of spec.l5ReadTurn, over the seat's translation. -/
namespace Go.Proofs.YtpcfebekkgfpjaaGreatDoor
open Go.RowKit

theorem one_of {z : ByteArray} {r : List ByteArray} {b : Bs} (h : (z :: r).map (·.data.toList) = [b]) : r = [] ∧ z.data.toList = b := by
  cases r with
  | nil => exact ⟨rfl, by simpa using congrArg (·.head?) h⟩
  | cons x r => simp at h
theorem two_of {z : ByteArray} {r : List ByteArray} {b c : Bs} (h : (z :: r).map (·.data.toList) = [b, c]) : ∃ x, r = [x] ∧ z.data.toList = b ∧ x.data.toList = c := by
  match r, h with
  | [], h => simp at h
  | [x], h =>
    have h1 : (([z, x].map (·.data.toList))[0]?) = some b := by rw [h]; rfl
    have h2 : (([z, x].map (·.data.toList))[1]?) = some c := by rw [h]; rfl
    exact ⟨x, rfl, Option.some.inj h1, Option.some.inj h2⟩
  | x :: y :: r, h => simp at h
theorem rd_name2 {verb nm z l : ByteArray} {r : List ByteArray} (hl : (z :: r).getLast? = some l) (hv : verb.toList = [110, 97, 109, 101]) : ActRd (verb.data.toList :: nm.data.toList :: (z :: r).map (·.data.toList)) ⟨6, nm, 0, [], [], ⟨3, z, l, colK 0⟩, lnk0⟩ := fun y hy e => by
  rw [ByteArray.toList_eq] at hv
  rcases act_inv hy e with h | h | h | h | h | h | h | h | h
  case inr.inr.inr.inr.inr.inr.inr.inl =>
    obtain ⟨_, h2, h3, h4⟩ := h
    obtain ⟨x, rfl, h5, h6⟩ := two_of h4
    simp at hl
    subst hl
    rw [h2, bytes_same h3, bytes_same h5, bytes_same h6]
  all_goals exact absurd h.1 (by rw [hv]; decide)
theorem rd_kind2 {verb nm z l : ByteArray} {r : List ByteArray} {k : Int} (hl : (z :: r).getLast? = some l) (hk : ∀ q, kindOk q = true → l.data.toList = kindB q → k = q) (hv : verb.toList = [107, 105, 110, 100]) : ActRd (verb.data.toList :: nm.data.toList :: (z :: r).map (·.data.toList)) ⟨6, nm, 0, [], [], ⟨4, z, ⟨#[]⟩, colK k⟩, lnk0⟩ := fun y hy e => by
  rw [ByteArray.toList_eq] at hv
  rcases act_inv hy e with h | h | h | h | h | h | h | h | h
  case inr.inr.inr.inr.inr.inr.inr.inr =>
    obtain ⟨_, h2, h3, h4, h5⟩ := h
    obtain ⟨x, rfl, h7, h6⟩ := two_of h4
    simp at hl
    subst hl
    rw [h2, bytes_same h3, bytes_same h7, hk _ h5 h6]
  all_goals exact absurd h.1 (by rw [hv]; decide)

theorem colrd_small {x : ByteArray} {c : ACol} (hx : x.size ≤ 1048576) (h : ColRd x.data.toList c) : c.nm.size ≤ 1048576 ∧ c.s.size ≤ 1048576 := by
  have h1 := h.1
  simp at h1
  exact ⟨by omega, by omega⟩

/-- A change, as a value. -/
abbrev chgV (g : AChg) : Value := .agg #[.int .i64 g.kd, .string g.nm, .string g.nw, .string g.c.nm, .int .i64 g.c.kd, .bool g.c.nd, .bool g.c.oc, .int .i64 g.c.k, .int .i64 g.c.n, .string g.c.s]
def chgSmall (g : AChg) : Prop := g.nm.size ≤ 1048576 ∧ g.nw.size ≤ 1048576 ∧ g.c.nm.size ≤ 1048576 ∧ g.c.s.size ≤ 1048576

set_option maxRecDepth 100000 in
set_option maxHeartbeats 2000000 in
theorem spec_read_turn (a : Option Addr) (cap : Nat) (verb nm z : ByteArray) (r : List ByteArray) (w : World) (ha : StrsAt w a (verb :: nm :: z :: r)) (hs : ∀ x ∈ verb :: nm :: z :: r, x.size ≤ 1048576) (hm : (verb :: nm :: z :: r).length ≤ 2000000)
    (hv : verb.toList = [97, 100, 100] ∨ verb.toList = [100, 114, 111, 112] ∨ verb.toList = [110, 97, 109, 101] ∨ verb.toList = [107, 105, 110, 100]) :
    Calls Tryz.prog 79 #[.slice a (verb :: nm :: z :: r).length cap] w fun e w' => ∃ g : AChg, e = .returned (chgV g) ∧ chgSmall g ∧ ActRd (verb.data.toList :: nm.data.toList :: (z :: r).map (·.data.toList)) ⟨6, nm, 0, [], [], g, lnk0⟩ ∧ Below w.heap.size w w' := by
  obtain ⟨b, o, rfl, hbl, hr⟩ : ∃ b o, a = some ⟨b, o, none⟩ ∧ b < w.heap.size ∧ ∀ i x, (verb :: nm :: z :: r)[i]? = some x → w.cell? ⟨b, o + i, none⟩ = some (.string x) := by
    rcases ha with h | h
    · cases h
    · exact h
  obtain ⟨l, hl⟩ : ∃ l, (z :: r).getLast? = some l := ⟨_, List.getLast?_eq_some_getLast (by simp)⟩
  have hll : (verb :: nm :: z :: r)[r.length + 2]? = some l := by
    rw [List.getLast?_eq_getElem?] at hl
    simpa using hl
  have hls : l.size ≤ 1048576 := hs l (List.mem_of_getElem? hll)
  have A0 : Below w.heap.size w (w.alloc (.cells #[.int .i64 0, .string ⟨#[]⟩, .string ⟨#[]⟩, .string ⟨#[]⟩, .int .i64 0, .bool false, .bool false, .int .i64 0, .int .i64 0, .string ⟨#[]⟩] 30)) := (Below.refl _ _).alloc (Nat.le_refl _) _
  have H0 : Hid ((w.alloc (.cells #[.int .i64 0, .string ⟨#[]⟩, .string ⟨#[]⟩, .string ⟨#[]⟩, .int .i64 0, .bool false, .bool false, .int .i64 0, .int .i64 0, .string ⟨#[]⟩] 30)).heap[w.heap.size]? = some (.cells #[.int .i64 0, .string ⟨#[]⟩, .string ⟨#[]⟩, .string ⟨#[]⟩, .int .i64 0, .bool false, .bool false, .int .i64 0, .int .i64 0, .string ⟨#[]⟩] 30) ∧ Below w.heap.size w (w.alloc (.cells #[.int .i64 0, .string ⟨#[]⟩, .string ⟨#[]⟩, .string ⟨#[]⟩, .int .i64 0, .bool false, .bool false, .int .i64 0, .int .i64 0, .string ⟨#[]⟩] 30))) := ⟨blk_new w _, A0⟩
  have h0 : (w.alloc (.cells #[.int .i64 0, .string ⟨#[]⟩, .string ⟨#[]⟩, .string ⟨#[]⟩, .int .i64 0, .bool false, .bool false, .int .i64 0, .int .i64 0, .string ⟨#[]⟩] 30)).cell? ⟨b, o, none⟩ = some (.string verb) := by rw [(bcell A0).1 _ _ hbl]; exact hr 0 verb rfl
  have h2 : (w.alloc (.cells #[.int .i64 0, .string ⟨#[]⟩, .string ⟨#[]⟩, .string ⟨#[]⟩, .int .i64 0, .bool false, .bool false, .int .i64 0, .int .i64 0, .string ⟨#[]⟩] 30)).cell? ⟨b, o + 2, none⟩ = some (.string z) := by rw [(bcell A0).1 _ _ hbl]; exact hr 2 z rfl
  have hL : (w.alloc (.cells #[.int .i64 0, .string ⟨#[]⟩, .string ⟨#[]⟩, .string ⟨#[]⟩, .int .i64 0, .bool false, .bool false, .int .i64 0, .int .i64 0, .string ⟨#[]⟩] 30)).cell? ⟨b, o + (r.length + 1 + 1), none⟩ = some (.string l) := by rw [(bcell A0).1 _ _ hbl]; exact hr (r.length + 2) l hll
  have hHS : Hid (z.size ≤ 1048576 ∧ l.size ≤ 1048576) := ⟨hs z (by simp), hls⟩
  clear ha hs hr hll hls A0
  simp only [List.length_cons] at hm ⊢
  have i0 : (0 : Int) < (r.length : Int) + 1 + 1 + 1 := by omega
  have i2 : (2 : Int) < (r.length : Int) + 1 + 1 + 1 := by omega
  rcases hv with hv | hv | hv | hv
  · have v1 : (verb.toList == [97, 100, 100]) = true := beq_iff_eq.2 hv
    go_enter Tryz.func79, Tryz.ntmps79
    go_wp2_with fail
    generalize w.alloc (.cells #[.int .i64 0, .string ⟨#[]⟩, .string ⟨#[]⟩, .string ⟨#[]⟩, .int .i64 0, .bool false, .bool false, .int .i64 0, .int .i64 0, .string ⟨#[]⟩] 30) = W0 at *
    refine (spec_read_col z W0 hHS.out.1).mono ?_
    rintro e w2 ⟨c, rfl, hc, hq⟩
    have H2 : Hid (w2.heap[w.heap.size]? = some (.cells #[.int .i64 0, .string ⟨#[]⟩, .string ⟨#[]⟩, .string ⟨#[]⟩, .int .i64 0, .bool false, .bool false, .int .i64 0, .int .i64 0, .string ⟨#[]⟩] 30) ∧ Below w.heap.size w w2 ∧ ColRd z.data.toList c) := ⟨blk_keep H0.out.1 hq, H0.out.2.trans (hq.mono H0.out.2.size), hc⟩
    clear hq hc h0 h2 hL H0
    have hb0 := cell_blk (o := 0) H2.out.1 rfl
    have hb1 := cell_blk (o := 1) H2.out.1 rfl
    have hb2 := cell_blk (o := 2) H2.out.1 rfl
    have hb3 := cell_blk (o := 3) H2.out.1 rfl
    have hb4 := cell_blk (o := 4) H2.out.1 rfl
    have hb5 := cell_blk (o := 5) H2.out.1 rfl
    have hb6 := cell_blk (o := 6) H2.out.1 rfl
    have hb7 := cell_blk (o := 7) H2.out.1 rfl
    have hb8 := cell_blk (o := 8) H2.out.1 rfl
    have hb9 := cell_blk (o := 9) H2.out.1 rfl
    have hr0 := froz_blk 0 H2.out.1
    have hr1 := froz_blk 1 H2.out.1
    have hr2 := froz_blk 2 H2.out.1
    have hr3 := froz_blk 3 H2.out.1
    have hr4 := froz_blk 4 H2.out.1
    have hr5 := froz_blk 5 H2.out.1
    have hr6 := froz_blk 6 H2.out.1
    have hr7 := froz_blk 7 H2.out.1
    have hr8 := froz_blk 8 H2.out.1
    have hr9 := froz_blk 9 H2.out.1
    go_wp2_with fail
    exact bodyPost_ret (results_cell Tryz.results79 rfl (run_loadVar_mid _ _ 0 _ _ _ (World.rangeAt_setCells_same w2 _ _ [.int .i64 1, .string ⟨#[]⟩, .string ⟨#[]⟩, .string c.nm, .int .i64 c.kd, .bool c.nd, .bool c.oc, .int .i64 c.k, .int .i64 c.n, .string c.s] (there_blk 10 (Nat.le_refl _) H2.out.1)) Tryz.underlying30 rfl (by kernel_rfl))) rfl ⟨⟨1, ⟨#[]⟩, ⟨#[]⟩, c⟩, rfl, ⟨Nat.zero_le _, Nat.zero_le _, (colrd_small hHS.out.1 H2.out.2.2)⟩, rd_add (ws := z :: r) H2.out.2.2 hv, below_put H2.out.2.1 (Nat.le_refl _) 0 [.int .i64 1, .string ⟨#[]⟩, .string ⟨#[]⟩, .string c.nm, .int .i64 c.kd, .bool c.nd, .bool c.oc, .int .i64 c.k, .int .i64 c.n, .string c.s]⟩
  · have v1 : (verb.toList == [97, 100, 100]) = false := by rw [hv]; rfl
    have v2 : (verb.toList == [100, 114, 111, 112]) = true := beq_iff_eq.2 hv
    go_enter Tryz.func79, Tryz.ntmps79
    go_wp2_with fail
    exact bodyPost_ret (results_cell Tryz.results79 rfl (run_loadVar_mid _ _ 0 _ _ _ (range_box w [.int .i64 2, .string z, .string ⟨#[]⟩, .string ⟨#[]⟩, .int .i64 0, .bool false, .bool false, .int .i64 0, .int .i64 0, .string ⟨#[]⟩] 30) Tryz.underlying30 rfl (by kernel_rfl))) rfl ⟨⟨2, z, ⟨#[]⟩, colK 0⟩, rfl, ⟨hHS.out.1, Nat.zero_le _, Nat.zero_le _, Nat.zero_le _⟩, rd_drop (ws := z :: r) hv, (Below.refl _ _).alloc (Nat.le_refl _) _⟩
  · have v1 : (verb.toList == [97, 100, 100]) = false := by rw [hv]; rfl
    have v2 : (verb.toList == [100, 114, 111, 112]) = false := by rw [hv]; rfl
    have v3 : (verb.toList == [110, 97, 109, 101]) = true := beq_iff_eq.2 hv
    go_enter Tryz.func79, Tryz.ntmps79
    go_wp2_with fail
    have hw1 : IntKind.i64.wrap ((r.length : Int) + 1 + 1) = (r.length : Int) + 1 + 1 := by
      rw [show ((r.length : Int) + 1 + 1) = ((r.length + 2 : Nat) : Int) by omega]
      simp [IntKind.wrap, IntKind.bits, IntKind.signed]
      omega
    have i4 : (r.length : Int) + 1 + 1 < (r.length : Int) + 1 + 1 + 1 := by omega
    have i5 : (0 : Int) ≤ (r.length : Int) + 1 + 1 := by omega
    have i6 : ((r.length : Int) + 1 + 1).toNat = r.length + 1 + 1 := by omega
    go_region_with fail
    all_goals
      go_wp2_with fail
      exact bodyPost_ret (results_cell Tryz.results79 rfl (run_loadVar_mid _ _ 0 _ _ _ (range_box w [.int .i64 3, .string z, .string l, .string ⟨#[]⟩, .int .i64 0, .bool false, .bool false, .int .i64 0, .int .i64 0, .string ⟨#[]⟩] 30) Tryz.underlying30 rfl (by kernel_rfl))) rfl ⟨⟨3, z, l, colK 0⟩, rfl, ⟨hHS.out.1, hHS.out.2, Nat.zero_le _, Nat.zero_le _⟩, rd_name2 hl hv, ((Below.refl _ _).alloc (Nat.le_refl _) _).drew⟩
  · have v1 : (verb.toList == [97, 100, 100]) = false := by rw [hv]; rfl
    have v2 : (verb.toList == [100, 114, 111, 112]) = false := by rw [hv]; rfl
    have v3 : (verb.toList == [110, 97, 109, 101]) = false := by rw [hv]; rfl
    go_enter Tryz.func79, Tryz.ntmps79
    go_wp2_with fail
    have hw1 : IntKind.i64.wrap ((r.length : Int) + 1 + 1) = (r.length : Int) + 1 + 1 := by
      rw [show ((r.length : Int) + 1 + 1) = ((r.length + 2 : Nat) : Int) by omega]
      simp [IntKind.wrap, IntKind.bits, IntKind.signed]
      omega
    have i4 : (r.length : Int) + 1 + 1 < (r.length : Int) + 1 + 1 + 1 := by omega
    have i5 : (0 : Int) ≤ (r.length : Int) + 1 + 1 := by omega
    have i6 : ((r.length : Int) + 1 + 1).toNat = r.length + 1 + 1 := by omega
    go_region_with (first | (go_at_call 118; refine (spec_read_kind _ _).mono ?_; rintro e w' ⟨k, rfl, rfl, hk⟩; have HK : Hid (∀ q, kindOk q = true → l.data.toList = kindB q → k = q) := hk; clear hk))
    all_goals
      go_wp2_with fail
      exact bodyPost_ret (results_cell Tryz.results79 rfl (run_loadVar_mid _ _ 0 _ _ _ (range_box w [.int .i64 4, .string z, .string ⟨#[]⟩, .string ⟨#[]⟩, .int .i64 k, .bool false, .bool false, .int .i64 0, .int .i64 0, .string ⟨#[]⟩] 30) Tryz.underlying30 rfl (by kernel_rfl))) rfl ⟨⟨4, z, ⟨#[]⟩, colK k⟩, rfl, ⟨hHS.out.1, Nat.zero_le _, Nat.zero_le _, Nat.zero_le _⟩, rd_kind2 hl HK.out hv, ((Below.refl _ _).alloc (Nat.le_refl _) _).drew⟩

end Go.Proofs.YtpcfebekkgfpjaaGreatDoor
