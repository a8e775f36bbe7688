/- The contract of spec.IndexOnce, over the seat's translation. -/
import Derived.Test.YtgjhmpgofmmniaaG04
import Derived.Deep.QuietTactic
import Derived.Test.YtgjhmpgofmmniaaIxX1
import Derived.Test.YtgjhmpgofmmniaaG06
namespace Go.Proofs.Ytgjhmpgofmmniaa
open Go.RowKit

/-- The same value twice, and not nothing. -/
def twice (c d : AEnt) : Bool := !(d.k == 0) && eqV d c
def onceB (L : List AEnt) : Bool := (List.range L.length).all fun i => match L[i]?, L[i + 1]? with | some c, some d => !(twice c d) | _, _ => true
theorem once_bad {L : List AEnt} {k : Nat} {c d : AEnt} (hc : L[k]? = some c) (hd : L[k + 1]? = some d) (h : twice c d = true) : onceB L = false := by
  unfold onceB
  rw [List.all_eq_false]
  exact ⟨k, List.mem_range.2 (List.getElem?_eq_some_iff.1 hc).1, by simp [hc, hd, h]⟩
theorem once_ok {L : List AEnt} (h : ∀ i c d, i + 1 < L.length → L[i]? = some c → L[i + 1]? = some d → twice c d = false) : onceB L = true := by
  unfold onceB
  rw [List.all_eq_true]
  intro i hi
  have hi := List.mem_range.1 hi
  rw [List.getElem?_eq_getElem hi]
  cases hd : L[i + 1]? with
  | none => rfl
  | some d => simp [h i _ d (List.getElem?_eq_some_iff.1 hd).1 (List.getElem?_eq_getElem hi) hd]
def onceOk (L : List AEnt) : Bool := indexOk L && onceB L

set_option maxHeartbeats 1000000 in
theorem eql_val (c d : AEnt) (w : World) :
    (binOp .eql 27 (.agg #[.int .i64 c.k, .int .i64 c.n, .string c.s]) (.agg #[.int .i64 d.k, .int .i64 d.n, .string d.s])).run Try.prog w = .ok (.bool (eqV c d)) w := by
  unfold eqV
  go_simp
  by_cases a : c.k = d.k <;> by_cases b : c.n = d.n <;> by_cases e : c.s.toList = d.s.toList <;> simp [a, b, e]

set_option maxRecDepth 100000 in
set_option maxHeartbeats 2000000 in
theorem spec_once (a : Option Addr) (cap : Nat) (L : List AEnt) (w : World) (hL : EntsAt w a L) (hf : ∀ c ∈ L, c.fit) (hm : L.length ≤ maxLen) :
    Calls Try.prog 10 #[.slice a L.length cap] w fun e w' => e = .returned (.bool (onceOk L)) ∧ Below w.heap.size w w' := by
  have hm' := hm
  unfold maxLen at hm'
  go_enter Try.func10, Try.ntmps10
  go_wp2_with fail
  go_loopw [3] (fun i wr => ∃ k : Nat, k ≤ L.length ∧ i = .int .i64 ((k : Int) + 1) ∧ Hid ((∀ i c d, i < k → L[i]? = some c → L[i + 1]? = some d → twice c d = false) ∧ Below w.heap.size w wr)) (fun i _ => L.length - (intOf i).toNat)
  case atStart => exact ⟨0, Nat.zero_le _, rfl, ⟨fun i c d hi => absurd hi (Nat.not_lt_zero _), Below.refl _ _⟩⟩
  case round =>
    obtain ⟨k, hk, rfl, hH⟩ := hrel
    by_cases hlt : k + 1 < L.length
    · have hlj : k < L.length := by omega
      obtain ⟨b, o, hab, hbl, hr⟩ := (hL.keep hH.out.2).at hlt
      obtain ⟨b', o', hab', -, hr'⟩ := (hL.keep hH.out.2).at hlj
      rw [hab] at hab'
      simp only [Option.some.injEq, Addr.mk.injEq] at hab'
      obtain ⟨rfl, rfl, _⟩ := hab'
      have hc1 := List.getElem?_eq_getElem hlj
      have hc2 := List.getElem?_eq_getElem hlt
      revert hr hr' hc1 hc2
      generalize L[k] = c
      generalize L[k + 1] = d
      intro hr hr' hc1 hc2
      have hix : ∀ wx, (Instr.indexAt 23 (.slice a L.length cap) (.int .i64 k)).run Try.prog wx = .ok (.pointer (some ⟨b, o + k * 4, none⟩)) wx := fun wx => by
        rw [hab]; exact run_ix4 _ _ _ _ _ _ _ wx hlj Try.underlying23 (Try.sizeOf29 wx)
      obtain ⟨q, hq⟩ : ∃ q, q = (k + 1) * 4 := ⟨_, rfl⟩
      have hiy : ∀ wx, (Instr.indexAt 23 (.slice a L.length cap) (.int .i64 ((k : Int) + 1))).run Try.prog wx = .ok (.pointer (some ⟨b, o + q, none⟩)) wx := fun wx => by
        rw [hab, hq]; exact run_ix4 _ _ _ _ _ (k + 1) _ wx hlt Try.underlying23 (Try.sizeOf29 wx)
      rw [← hq] at hr
      have hT1 := cells4_of hr'
      have hT2 := cells4_of hr
      have hC : Hid (L[k]? = some c ∧ L[k + 1]? = some d) := ⟨hc1, hc2⟩
      have hlti : (k : Int) + 1 < L.length := by omega
      have hwk : IntKind.i64.wrap (k : Int) = (k : Int) := by
        simp [IntKind.wrap, IntKind.bits, IntKind.signed]
        omega
      have hqe := eql_val d c
      clear hab hr hr' hL hbl hc1 hc2 hq
      have hkd : ((d.k == 0) = true ∧ (d.k != 0) = false) ∨ ((d.k == 0) = false ∧ (d.k != 0) = true) := by by_cases h : d.k = 0 <;> simp [h]
      rcases hkd with ⟨hk0, hk1⟩ | ⟨hk0, hk1⟩
      · have HT : Hid (twice c d = false) := by show twice c d = false; simp [twice, hk0]
        go_wp2_with fail
        go_quiet (fail)
        have hP : Hid (Below w.heap.size w (wr.drewN nq)) := hH.out.2.trans (quiet_below _ _ _)
        go_wp2_with fail
        go_roundw
        case rel =>
          refine ⟨k + 1, by omega, by go_num, ⟨fun i x y hi hx hy => ?_, hP.out⟩⟩
          by_cases hik : i = k
          · subst hik
            rw [hC.out.1] at hx
            rw [hC.out.2] at hy
            cases hx; cases hy
            exact HT.out
          · exact hH.out.1 i x y (by omega) hx hy
        case measure => simp [intOf]; omega
      · cases hv : eqV d c
        · have HT : Hid (twice c d = false) := by show twice c d = false; simp [twice, hv]
          go_wp2_with fail
          go_quiet (fail)
          have hP : Hid (Below w.heap.size w (wr.drewN nq)) := hH.out.2.trans (quiet_below _ _ _)
          go_wp2_with fail
          go_roundw
          case rel =>
            refine ⟨k + 1, by omega, by go_num, ⟨fun i x y hi hx hy => ?_, hP.out⟩⟩
            by_cases hik : i = k
            · subst hik
              rw [hC.out.1] at hx
              rw [hC.out.2] at hy
              cases hx; cases hy
              exact HT.out
            · exact hH.out.1 i x y (by omega) hx hy
          case measure => simp [intOf]; omega
        · have HT : Hid (twice c d = true) := by show twice c d = true; simp [twice, hv, hk0]
          go_wp2_with fail
          go_quiet (fail)
          have hP : Hid (Below w.heap.size w (wr.drewN nq)) := hH.out.2.trans (quiet_below _ _ _)
          go_wp2_with fail
          go_ret
          exact ⟨ret_bool (by rw [onceOk, once_bad hC.out.1 hC.out.2 HT.out, Bool.and_false]), hP.out⟩
    · have hlti : ¬ (k : Int) + 1 < L.length := by omega
      have hO : Hid (onceB L = true) := once_ok fun i x y hi hx hy => hH.out.1 i x y (by omega) hx hy
      have hL2 := hL.keep hH.out.2
      go_wp2_with fail
      refine (spec_index _ _ _ _ hL2 hf hm).mono ?_
      rintro e w1 ⟨rfl, hb⟩
      have hP : Hid (Below w.heap.size w w1) := hH.out.2.trans (hb.mono hH.out.2.size)
      clear hb hL2
      go_wp2_with fail
      go_ret
      exact ⟨ret_bool (by rw [onceOk, hO.out, Bool.and_true]), hP.out⟩

end Go.Proofs.Ytgjhmpgofmmniaa

/- The contracts of laws.wpEntries and of DrawIndexOk, over the seat's translation. -/
namespace Go.Proofs.Ytgjhmpgofmmniaa
open Go.RowKit

theorem neq_entry (c : AEnt) (w : World) :
    (binOp .neq 29 (.agg #[.int .i64 c.k, .int .i64 c.n, .string c.s, .int .i64 c.id]) (.agg #[.int .i64 c.k, .int .i64 c.n, .string c.s, .int .i64 c.id])).run Try.prog w = .ok (.bool false) w := by
  go_simp

/-- What a draw of entries answers: entries that lie in W, small ones, and no more than 16. -/
structure DrE (w : World) (a : Option Addr) (c : Nat) (L : List AEnt) (W : World) : Prop where
  ents : EntsAt W a L
  nil : a = none → c = 0
  cap : L.length ≤ c
  len : L.length ≤ 16
  small : ∀ d ∈ L, d.s.size ≤ 5
  bel : Below w.heap.size w W
theorem DrE.fit {w : World} {a : Option Addr} {c : Nat} {L : List AEnt} {W : World} (h : DrE w a c L W) : ∀ d ∈ L, d.fit := fun d hd => by
  have := h.small d hd
  unfold AEnt.fit maxLen
  omega
theorem DrE.next {w : World} {a : Option Addr} {c : Nat} {L : List AEnt} {W W' : World} (h : DrE w a c L W) (hb : Below W.heap.size W W') : DrE w a c L W' :=
  ⟨h.ents.keep hb, h.nil, h.cap, h.len, h.small, h.bel.trans (hb.mono h.bel.size)⟩
theorem DrE.of {w : World} {g : Nat} {w1 W : World} {a : Option Addr} {c : Nat} {L : List AEnt} (hb : Below w.heap.size w w1) (hB : w.heap.size ≤ g) (hR : RowE w1.heap.size (.slice a L.length c) L W) (hl : L.length ≤ 16) (hs : ∀ d ∈ L, d.s.size ≤ 5) (hu : Upd g w1 W) : DrE w a c L W := by
  obtain ⟨h0, hc⟩ := hR.caps rfl
  exact ⟨hR.same, h0, hc, hl, hs, hb.trans (hu.below hB hb.size)⟩

set_option maxRecDepth 100000 in
set_option maxHeartbeats 1000000 in
theorem wp_entries (a b : Option Addr) (cap cap' : Nat) (L : List AEnt) (w : World) (ha : EntsAt w a L) (hb : EntsAt w b L) (hm : L.length ≤ maxLen) :
    Calls Try.prog 23 #[.slice a L.length cap, .slice b L.length cap'] w fun e w' => e = .returned (.bool true) ∧ Below w.heap.size w w' := by
  unfold maxLen at hm
  go_enter Try.func23, Try.ntmps23
  go_wp2_with fail
  go_loopw [5] (fun i wr => ∃ k : Nat, k ≤ L.length ∧ i = .int .i64 k ∧ Hid (Below w.heap.size w wr)) (fun i _ => L.length - (intOf i).toNat)
  case atStart => exact ⟨0, Nat.zero_le _, rfl, Below.refl _ _⟩
  case round =>
    obtain ⟨k, hk, rfl, hH⟩ := hrel
    by_cases hlt : k < L.length
    · obtain ⟨b1, o1, hab1, hbl1, hr1⟩ := (ha.keep hH.out).at hlt
      obtain ⟨b2, o2, hab2, hbl2, hr2⟩ := (hb.keep hH.out).at hlt
      revert hr1 hr2
      generalize L[k] = c
      intro hr1 hr2
      have hix : ∀ wx, (Instr.indexAt 23 (.slice a L.length cap) (.int .i64 k)).run Try.prog wx = .ok (.pointer (some ⟨b1, o1 + k * 4, none⟩)) wx := fun wx => by
        rw [hab1]; exact run_ix4 _ _ _ _ _ _ _ wx hlt Try.underlying23 (Try.sizeOf29 wx)
      have hiy : ∀ wx, (Instr.indexAt 23 (.slice b L.length cap') (.int .i64 k)).run Try.prog wx = .ok (.pointer (some ⟨b2, o2 + k * 4, none⟩)) wx := fun wx => by
        rw [hab2]; exact run_ix4 _ _ _ _ _ _ _ wx hlt Try.underlying23 (Try.sizeOf29 wx)
      have hT1 := cells4_of hr1
      have hT2 := cells4_of hr2
      have hq := neq_entry c
      clear hab1 hab2 ha hb hbl1 hbl2 hr1 hr2
      go_wp2_with fail
      go_quiet (fail)
      have hP : Hid (Below w.heap.size w (wr.drewN nq)) := hH.out.trans (quiet_below _ _ _)
      go_wp2_with fail
      go_roundw
      case rel => exact ⟨k + 1, by omega, by go_num, hP⟩
      case measure => simp [intOf]; omega
    · have hkl : k = L.length := by omega
      subst hkl
      go_wp2_with fail
      go_ret
      exact ⟨rfl, hH.out⟩

set_option maxHeartbeats 1000000 in
theorem draw_iok (x : Option Addr) (len cap : Nat) (w : World) (hlc : len ≤ cap) (hcap : cap ≤ maxLen) (hc : IsCode w.heap.size x len w) :
    Calls Try.prog 13 #[.slice x len cap] w fun e w' => ∃ a c L, e = .returned (.slice a (List.length L) c) ∧ DrE w a c L w' := by
  go_enter Try.func13, Try.ntmps13
  go_wp2_with fail
  refine (l10_open w.heap.size w.heap.size x len cap w rfl (Nat.le_refl _) hlc hcap hc).mono ?_
  rintro e w1 ⟨rfl, hr1, hb1⟩
  have H1 : Hid (Rd w.heap.size w.heap.size 0 w1 ∧ Below w.heap.size w w1) := ⟨hr1, hb1⟩
  clear hr1 hb1 hc
  go_wp2_with fail
  refine (l8_some w.heap.size w.heap.size 0 w1 H1.out.1 (by omega)).mono ?_
  rintro e w2 ⟨a, c, L, y, q, rfl, hR, hl, hs, hy, hq, hr2, hu2⟩
  have hD : Hid (DrE w a c L w2) := DrE.of H1.out.2 (Nat.le_refl _) hR hl hs hu2
  clear hR hr2 hu2 H1
  go_wp2_with fail
  go_ret
  exact ⟨_, _, _, rfl, hD.out.next (alloc_below _ _)⟩

end Go.Proofs.Ytgjhmpgofmmniaa

/- Rows of ints. -/
namespace Go.Proofs.Ytgjhmpgofmmniaa
open Go.RowKit

/-- The ints L lie in W from where the slice begins. -/
def IntsAt (W : World) (a : Option Addr) (L : List Int) : Prop :=
  L = [] ∨ ∃ b o, a = some ⟨b, o, none⟩ ∧ b < W.heap.size ∧ ∀ i c, L[i]? = some c → W.cell? ⟨b, o + i, none⟩ = some (.int .i64 c)

theorem IntsAt.keep {W W' : World} {a : Option Addr} {L : List Int} (h : IntsAt W a L) (hb : Below W.heap.size W W') : IntsAt W' a L := by
  rcases h with h | ⟨b, o, ha, hlt, hr⟩
  · exact Or.inl h
  · exact Or.inr ⟨b, o, ha, Nat.lt_of_lt_of_le hlt hb.size, fun i c hc => by rw [(bcell hb).1 _ _ hlt]; exact hr i c hc⟩

theorem IntsAt.at {W : World} {a : Option Addr} {L : List Int} (h : IntsAt W a L) {k : Nat} (hk : k < L.length) :
    ∃ b o, a = some ⟨b, o, none⟩ ∧ b < W.heap.size ∧ W.cell? ⟨b, o + k, none⟩ = some (.int .i64 L[k]) := by
  rcases h with h | ⟨b, o, ha, hlt, hr⟩
  · subst h; simp at hk
  · exact ⟨b, o, ha, hlt, hr k _ (List.getElem?_eq_getElem hk)⟩

theorem run_ix1 {P : Program} (t e : TypeId) (b o len cap k : Nat) (w : World) (hk : k < len) (ht : P.underlying t = some (.slice e)) (hs : (sizeOf e).run P w = .ok 1 w) :
    (Instr.indexAt t (.slice (some ⟨b, o, none⟩) len cap) (.int .i64 k)).run P w = .ok (.pointer (some ⟨b, o + k, none⟩)) w := by
  have hE : P.elem t = e := by simp [Program.elem, ht]
  rw [run_indexAt_slice w t _ len cap .i64 k (by rw [hE]; exact ht), if_pos ⟨by omega, by omega⟩, hE, hs]
  simp [Addr.add_mid]

theorem run_ix1o {P : Program} (t e : TypeId) (a : Option Addr) (B len cap k : Nat) (w : World) (ha : a = some ⟨B, 0, none⟩ ∨ len = 0) (hk : k < len) (ht : P.underlying t = some (.slice e)) (hs : (sizeOf e).run P w = .ok 1 w) :
    (Instr.indexAt t (.slice a len cap) (.int .i64 k)).run P w = .ok (.pointer (some ⟨B, k, none⟩)) w := by
  rcases ha with rfl | h
  · have := run_ix1 t e B 0 len cap k w hk ht hs
    rwa [Nat.zero_add] at this
  · omega

/-- Block B holds n ints that may be written; the first i bear marks from k on; nothing else has turned. -/
def MarkedI (w : World) (B n k i : Nat) (W : World) : Prop :=
  Turn B w W ∧ B < W.heap.size ∧ W.there B 0 n ∧ ∀ j, j < i → W.cell? ⟨B, j, none⟩ = some (.int .i64 ((k + j : Nat) : Int))

theorem there1_of {W : World} {B n i : Nat} (h : W.there B 0 n) (hi : i < n) : ∃ v, W.cell? ⟨B, i, none⟩ = some v ∧ W.frozen? ⟨B, i, none⟩ = false := by
  have := h i hi
  rw [Nat.zero_add] at this
  simpa [Option.isSome_iff_exists] using this

theorem MarkedI.set {w : World} {B n k i : Nat} {W : World} (h : MarkedI w B n k i W) (hi : i < n) : MarkedI w B n k (i + 1) (W.setCell ⟨B, i, none⟩ (.int .i64 ((k + i : Nat) : Int))) := by
  obtain ⟨h1, h2, h3, h4⟩ := h
  obtain ⟨v, hv, -⟩ := there1_of h3 hi
  refine ⟨h1.set _ _, by simpa [World.setCell] using h2, World.there_setCells h3 B i [.int .i64 ((k + i : Nat) : Int)], fun j hj => ?_⟩
  by_cases hji : j = i
  · subst hji
    exact World.cell?_setCell_same' _ _ _ (by rw [hv]; rfl)
  · have hne : (⟨B, i, none⟩ : Addr) ≠ ⟨B, j, none⟩ := fun e => hji (by simpa using e.symm)
    exact (World.cell?_setCell_other _ _ _ _ hne).trans (h4 j (by omega))

end Go.Proofs.Ytgjhmpgofmmniaa

/- The contracts of laws.wpNums, DrawIndexPut and DrawIndexOff, over the seat's translation. -/
namespace Go.Proofs.Ytgjhmpgofmmniaa
open Go.RowKit

theorem index_asc {L : List AEnt} (h : indexOk L = true) : Asc L := by
  unfold indexOk at h
  simp only [Bool.and_eq_true] at h
  exact (ascB_iff L).1 h.2.2
theorem index_val {L : List AEnt} (h : indexOk L = true) {c : AEnt} (hc : c ∈ L) : valOk c.k c.n c.s = true := by
  unfold indexOk at h
  simp only [Bool.and_eq_true, List.all_eq_true] at h
  have := h.2.1 c hc
  unfold AEnt.ok at this
  simp only [Bool.and_eq_true] at this
  exact this.1

set_option maxRecDepth 100000 in
set_option maxHeartbeats 1000000 in
theorem wp_nums (a b : Option Addr) (cap cap' : Nat) (L : List Int) (w : World) (ha : IntsAt w a L) (hb : IntsAt w b L) (hm : L.length ≤ maxLen) :
    Calls Try.prog 16 #[.slice a L.length cap, .slice b L.length cap'] w fun e w' => e = .returned (.bool true) ∧ Below w.heap.size w w' := by
  unfold maxLen at hm
  go_enter Try.func16, Try.ntmps16
  go_wp2_with fail
  go_loopw [5] (fun i wr => ∃ k : Nat, k ≤ L.length ∧ i = .int .i64 k ∧ Hid (Below w.heap.size w wr)) (fun i _ => L.length - (intOf i).toNat)
  case atStart => exact ⟨0, Nat.zero_le _, rfl, Below.refl _ _⟩
  case round =>
    obtain ⟨k, hk, rfl, hH⟩ := hrel
    by_cases hlt : k < L.length
    · obtain ⟨b1, o1, hab1, hbl1, hr1⟩ := (ha.keep hH.out).at hlt
      obtain ⟨b2, o2, hab2, hbl2, hr2⟩ := (hb.keep hH.out).at hlt
      revert hr1 hr2
      generalize L[k] = c
      intro hr1 hr2
      have hix : ∀ wx, (Instr.indexAt 30 (.slice a L.length cap) (.int .i64 k)).run Try.prog wx = .ok (.pointer (some ⟨b1, o1 + k, none⟩)) wx := fun wx => by
        rw [hab1]; exact run_ix1 _ _ _ _ _ _ _ wx hlt Try.underlying30 (Try.sizeOf3 wx)
      have hiy : ∀ wx, (Instr.indexAt 30 (.slice b L.length cap') (.int .i64 k)).run Try.prog wx = .ok (.pointer (some ⟨b2, o2 + k, none⟩)) wx := fun wx => by
        rw [hab2]; exact run_ix1 _ _ _ _ _ _ _ wx hlt Try.underlying30 (Try.sizeOf3 wx)
      clear hab1 hab2 ha hb hbl1 hbl2
      go_wp2_with fail
      go_quiet (fail)
      have hP : Hid (Below w.heap.size w (wr.drewN nq)) := hH.out.trans (quiet_below _ _ _)
      go_wp2_with fail
      go_roundw
      case rel => exact ⟨k + 1, by omega, by go_num, hP⟩
      case measure => simp [intOf]; omega
    · have hkl : k = L.length := by omega
      subst hkl
      go_wp2_with fail
      go_ret
      exact ⟨rfl, hH.out⟩

set_option maxHeartbeats 1000000 in
theorem draw_iput (x : Option Addr) (len cap : Nat) (w : World) (hlc : len ≤ cap) (hcap : cap ≤ maxLen) (hc : IsCode w.heap.size x len w) :
    Calls Try.prog 20 #[.slice x len cap] w fun e w' => ∃ a c L y, e = .returned (.tuple #[.slice a (List.length L) c, .agg #[.int .i64 (AEnt.k y), .int .i64 y.n, .string y.s, .int .i64 y.id]]) ∧ DrE w a c L w' ∧ y.s.size ≤ 5 := by
  have b0 := alloc_below w (.cells #[.int .i64 0, .int .i64 0, .string ⟨#[]⟩, .int .i64 0] 29)
  have H0 : Hid (IsCode w.heap.size x len (w.alloc (.cells #[.int .i64 0, .int .i64 0, .string ⟨#[]⟩, .int .i64 0] 29)) ∧ BoxE w.heap.size ⟨0, 0, ⟨#[]⟩, 0⟩ (w.alloc (.cells #[.int .i64 0, .int .i64 0, .string ⟨#[]⟩, .int .i64 0] 29)) ∧ Below w.heap.size w (w.alloc (.cells #[.int .i64 0, .int .i64 0, .string ⟨#[]⟩, .int .i64 0] 29))) := ⟨hc.keep b0, BoxE.new w ⟨0, 0, ⟨#[]⟩, 0⟩ _, b0⟩
  clear hc b0
  go_enter Try.func20, Try.ntmps20
  go_wp2_with fail
  refine (l10_open w.heap.size (w.heap.size + 1) x len cap _ (by rw [size_alloc]) (by rw [size_alloc]; omega) hlc hcap H0.out.1).mono ?_
  rintro e w1 ⟨rfl, hr1, hb1⟩
  have H1 : Hid (Rd w.heap.size (w.heap.size + 1) 0 w1 ∧ BoxE w.heap.size ⟨0, 0, ⟨#[]⟩, 0⟩ w1 ∧ Below w.heap.size w w1) := ⟨hr1, H0.out.2.1.keep hb1, H0.out.2.2.trans (hb1.mono (by rw [size_alloc]; omega))⟩
  clear hr1 hb1 H0
  go_wp2_with fail
  refine (l8_some w.heap.size (w.heap.size + 1) 0 w1 H1.out.1 (by omega)).mono ?_
  rintro e w2 ⟨a, c, L, y, q, rfl, hR, hl, hs, hy, hq, hr2, hu2⟩
  have hz1 : w.heap.size + 1 < w1.heap.size := H1.out.1.2.1
  have hrx := (H1.out.2.1.apart hu2 (by omega)).all
  have hD : Hid (DrE w a c L ((((w2.setCell ⟨w.heap.size, 0, none⟩ (.int .i64 y.k)).setCell ⟨w.heap.size, 1, none⟩ (.int .i64 y.n)).setCell ⟨w.heap.size, 2, none⟩ (.string y.s)).setCell ⟨w.heap.size, 3, none⟩ (.int .i64 y.id))) := by
    have hv : Upd w.heap.size w2 ((((w2.setCell ⟨w.heap.size, 0, none⟩ (.int .i64 y.k)).setCell ⟨w.heap.size, 1, none⟩ (.int .i64 y.n)).setCell ⟨w.heap.size, 2, none⟩ (.string y.s)).setCell ⟨w.heap.size, 3, none⟩ (.int .i64 y.id)) := Upd.set4 _ _ _ _ _
    obtain ⟨h0, hc⟩ := hR.caps rfl
    exact ⟨(hR.upd hv (by omega)).same, h0, hc, hl, hs, (H1.out.2.2.trans (hu2.below (by omega) H1.out.2.2.size)).trans (hv.below (Nat.le_refl _) (by have := hu2.size; omega))⟩
  clear hR hr2 hu2 H1
  go_wp2_with fail
  exact bodyPost_ret (v := .tuple #[.slice a L.length c, .agg #[.int .i64 y.k, .int .i64 y.n, .string y.s, .int .i64 y.id]]) (by simp [results, Try.results20, go_sem, hrx]) rfl ⟨_, _, _, _, rfl, hD.out, hy⟩

set_option maxHeartbeats 1000000 in
theorem draw_ioff (x : Option Addr) (len cap : Nat) (w : World) (hlc : len ≤ cap) (hcap : cap ≤ maxLen) (hc : IsCode w.heap.size x len w) :
    Calls Try.prog 25 #[.slice x len cap] w fun e w' => ∃ a c L y, e = .returned (.tuple #[.slice a (List.length L) c, .agg #[.int .i64 (AEnt.k y), .int .i64 y.n, .string y.s, .int .i64 y.id]]) ∧ DrE w a c L w' ∧ y.s.size ≤ 5 := by
  have b0 := alloc_below w (.cells #[.int .i64 0, .int .i64 0, .string ⟨#[]⟩, .int .i64 0] 29)
  have H0 : Hid (IsCode w.heap.size x len (w.alloc (.cells #[.int .i64 0, .int .i64 0, .string ⟨#[]⟩, .int .i64 0] 29)) ∧ BoxE w.heap.size ⟨0, 0, ⟨#[]⟩, 0⟩ (w.alloc (.cells #[.int .i64 0, .int .i64 0, .string ⟨#[]⟩, .int .i64 0] 29)) ∧ Below w.heap.size w (w.alloc (.cells #[.int .i64 0, .int .i64 0, .string ⟨#[]⟩, .int .i64 0] 29))) := ⟨hc.keep b0, BoxE.new w ⟨0, 0, ⟨#[]⟩, 0⟩ _, b0⟩
  clear hc b0
  go_enter Try.func25, Try.ntmps25
  go_wp2_with fail
  refine (l10_open w.heap.size (w.heap.size + 1) x len cap _ (by rw [size_alloc]) (by rw [size_alloc]; omega) hlc hcap H0.out.1).mono ?_
  rintro e w1 ⟨rfl, hr1, hb1⟩
  have H1 : Hid (Rd w.heap.size (w.heap.size + 1) 0 w1 ∧ BoxE w.heap.size ⟨0, 0, ⟨#[]⟩, 0⟩ w1 ∧ Below w.heap.size w w1) := ⟨hr1, H0.out.2.1.keep hb1, H0.out.2.2.trans (hb1.mono (by rw [size_alloc]; omega))⟩
  clear hr1 hb1 H0
  go_wp2_with fail
  refine (l8_some w.heap.size (w.heap.size + 1) 0 w1 H1.out.1 (by omega)).mono ?_
  rintro e w2 ⟨a, c, L, y, q, rfl, hR, hl, hs, hy, hq, hr2, hu2⟩
  have hz1 : w.heap.size + 1 < w1.heap.size := H1.out.1.2.1
  have hrx := (H1.out.2.1.apart hu2 (by omega)).all
  have hD : Hid (DrE w a c L ((((w2.setCell ⟨w.heap.size, 0, none⟩ (.int .i64 y.k)).setCell ⟨w.heap.size, 1, none⟩ (.int .i64 y.n)).setCell ⟨w.heap.size, 2, none⟩ (.string y.s)).setCell ⟨w.heap.size, 3, none⟩ (.int .i64 y.id))) := by
    have hv : Upd w.heap.size w2 ((((w2.setCell ⟨w.heap.size, 0, none⟩ (.int .i64 y.k)).setCell ⟨w.heap.size, 1, none⟩ (.int .i64 y.n)).setCell ⟨w.heap.size, 2, none⟩ (.string y.s)).setCell ⟨w.heap.size, 3, none⟩ (.int .i64 y.id)) := Upd.set4 _ _ _ _ _
    obtain ⟨h0, hc⟩ := hR.caps rfl
    exact ⟨(hR.upd hv (by omega)).same, h0, hc, hl, hs, (H1.out.2.2.trans (hu2.below (by omega) H1.out.2.2.size)).trans (hv.below (Nat.le_refl _) (by have := hu2.size; omega))⟩
  clear hR hr2 hu2 H1
  go_wp2_with fail
  exact bodyPost_ret (v := .tuple #[.slice a L.length c, .agg #[.int .i64 y.k, .int .i64 y.n, .string y.s, .int .i64 y.id]]) (by simp [results, Try.results25, go_sem, hrx]) rfl ⟨_, _, _, _, rfl, hD.out, hy⟩

end Go.Proofs.Ytgjhmpgofmmniaa
