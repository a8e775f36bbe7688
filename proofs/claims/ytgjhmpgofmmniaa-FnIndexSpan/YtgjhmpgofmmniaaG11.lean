/- The contract of spec.IndexOnce, over the seat's translation. -/
import Derived.Test.YtgjhmpgofmmniaaG04
import Derived.Deep.QuietTactic
import Derived.Test.YtgjhmpgofmmniaaIxX1
import Derived.Test.YtgjhmpgofmmniaaG06
namespace Go.Proofs.Ytgjhmpgofmmniaa
open Go.RowKit

/-- The same value twice, and not nothing. -/
def twice (c d : AEnt) : Bool := !(d.k == 0) && eqV d c
def onceB (L : List AEnt) : Bool := (List.range L.length).all fun i => match L[i]?, L[i + 1]? with | some c, some d => !(twice c d) | _, _ => true
theorem once_bad {L : List AEnt} {k : Nat} {c d : AEnt} (hc : L[k]? = some c) (hd : L[k + 1]? = some d) (h : twice c d = true) : onceB L = false := by
  unfold onceB
  rw [List.all_eq_false]
  exact ⟨k, List.mem_range.2 (List.getElem?_eq_some_iff.1 hc).1, by simp [hc, hd, h]⟩
theorem once_ok {L : List AEnt} (h : ∀ i c d, i + 1 < L.length → L[i]? = some c → L[i + 1]? = some d → twice c d = false) : onceB L = true := by
  unfold onceB
  rw [List.all_eq_true]
  intro i hi
  have hi := List.mem_range.1 hi
  rw [List.getElem?_eq_getElem hi]
  cases hd : L[i + 1]? with
  | none => rfl
  | some d => simp [h i _ d (List.getElem?_eq_some_iff.1 hd).1 (List.getElem?_eq_getElem hi) hd]
def onceOk (L : List AEnt) : Bool := indexOk L && onceB L

set_option maxHeartbeats 1000000 in
theorem eql_val (c d : AEnt) (w : World) :
    (binOp .eql 27 (.agg #[.int .i64 c.k, .int .i64 c.n, .string c.s]) (.agg #[.int .i64 d.k, .int .i64 d.n, .string d.s])).run Try.prog w = .ok (.bool (eqV c d)) w := by
  unfold eqV
  go_simp
  by_cases a : c.k = d.k <;> by_cases b : c.n = d.n <;> by_cases e : c.s.toList = d.s.toList <;> simp [a, b, e]

set_option maxRecDepth 100000 in
set_option maxHeartbeats 2000000 in
theorem spec_once (a : Option Addr) (cap : Nat) (L : List AEnt) (w : World) (hL : EntsAt w a L) (hf : ∀ c ∈ L, c.fit) (hm : L.length ≤ maxLen) :
    Calls Try.prog 10 #[.slice a L.length cap] w fun e w' => e = .returned (.bool (onceOk L)) ∧ Below w.heap.size w w' := by
  have hm' := hm
  unfold maxLen at hm'
  go_enter Try.func10, Try.ntmps10
  go_wp2_with fail
  go_loopw [3] (fun i wr => ∃ k : Nat, k ≤ L.length ∧ i = .int .i64 ((k : Int) + 1) ∧ Hid ((∀ i c d, i < k → L[i]? = some c → L[i + 1]? = some d → twice c d = false) ∧ Below w.heap.size w wr)) (fun i _ => L.length - (intOf i).toNat)
  case atStart => exact ⟨0, Nat.zero_le _, rfl, ⟨fun i c d hi => absurd hi (Nat.not_lt_zero _), Below.refl _ _⟩⟩
  case round =>
    obtain ⟨k, hk, rfl, hH⟩ := hrel
    by_cases hlt : k + 1 < L.length
    · have hlj : k < L.length := by omega
      obtain ⟨b, o, hab, hbl, hr⟩ := (hL.keep hH.out.2).at hlt
      obtain ⟨b', o', hab', -, hr'⟩ := (hL.keep hH.out.2).at hlj
      rw [hab] at hab'
      simp only [Option.some.injEq, Addr.mk.injEq] at hab'
      obtain ⟨rfl, rfl, _⟩ := hab'
      have hc1 := List.getElem?_eq_getElem hlj
      have hc2 := List.getElem?_eq_getElem hlt
      revert hr hr' hc1 hc2
      generalize L[k] = c
      generalize L[k + 1] = d
      intro hr hr' hc1 hc2
      have hix : ∀ wx, (Instr.indexAt 23 (.slice a L.length cap) (.int .i64 k)).run Try.prog wx = .ok (.pointer (some ⟨b, o + k * 4, none⟩)) wx := fun wx => by
        rw [hab]; exact run_ix4 _ _ _ _ _ _ _ wx hlj Try.underlying23 (Try.sizeOf29 wx)
      obtain ⟨q, hq⟩ : ∃ q, q = (k + 1) * 4 := ⟨_, rfl⟩
      have hiy : ∀ wx, (Instr.indexAt 23 (.slice a L.length cap) (.int .i64 ((k : Int) + 1))).run Try.prog wx = .ok (.pointer (some ⟨b, o + q, none⟩)) wx := fun wx => by
        rw [hab, hq]; exact run_ix4 _ _ _ _ _ (k + 1) _ wx hlt Try.underlying23 (Try.sizeOf29 wx)
      rw [← hq] at hr
      have hT1 := cells4_of hr'
      have hT2 := cells4_of hr
      have hC : Hid (L[k]? = some c ∧ L[k + 1]? = some d) := ⟨hc1, hc2⟩
      have hlti : (k : Int) + 1 < L.length := by omega
      have hwk : IntKind.i64.wrap (k : Int) = (k : Int) := by
        simp [IntKind.wrap, IntKind.bits, IntKind.signed]
        omega
      have hqe := eql_val d c
      clear hab hr hr' hL hbl hc1 hc2 hq
      have hkd : ((d.k == 0) = true ∧ (d.k != 0) = false) ∨ ((d.k == 0) = false ∧ (d.k != 0) = true) := by by_cases h : d.k = 0 <;> simp [h]
      rcases hkd with ⟨hk0, hk1⟩ | ⟨hk0, hk1⟩
      · have HT : Hid (twice c d = false) := by show twice c d = false; simp [twice, hk0]
        go_wp2_with fail
        go_quiet (fail)
        have hP : Hid (Below w.heap.size w (wr.drewN nq)) := hH.out.2.trans (quiet_below _ _ _)
        go_wp2_with fail
        go_roundw
        case rel =>
          refine ⟨k + 1, by omega, by go_num, ⟨fun i x y hi hx hy => ?_, hP.out⟩⟩
          by_cases hik : i = k
          · subst hik
            rw [hC.out.1] at hx
            rw [hC.out.2] at hy
            cases hx; cases hy
            exact HT.out
          · exact hH.out.1 i x y (by omega) hx hy
        case measure => simp [intOf]; omega
      · cases hv : eqV d c
        · have HT : Hid (twice c d = false) := by show twice c d = false; simp [twice, hv]
          go_wp2_with fail
          go_quiet (fail)
          have hP : Hid (Below w.heap.size w (wr.drewN nq)) := hH.out.2.trans (quiet_below _ _ _)
          go_wp2_with fail
          go_roundw
          case rel =>
            refine ⟨k + 1, by omega, by go_num, ⟨fun i x y hi hx hy => ?_, hP.out⟩⟩
            by_cases hik : i = k
            · subst hik
              rw [hC.out.1] at hx
              rw [hC.out.2] at hy
              cases hx; cases hy
              exact HT.out
            · exact hH.out.1 i x y (by omega) hx hy
          case measure => simp [intOf]; omega
        · have HT : Hid (twice c d = true) := by show twice c d = true; simp [twice, hv, hk0]
          go_wp2_with fail
          go_quiet (fail)
          have hP : Hid (Below w.heap.size w (wr.drewN nq)) := hH.out.2.trans (quiet_below _ _ _)
          go_wp2_with fail
          go_ret
          exact ⟨ret_bool (by rw [onceOk, once_bad hC.out.1 hC.out.2 HT.out, Bool.and_false]), hP.out⟩
    · have hlti : ¬ (k : Int) + 1 < L.length := by omega
      have hO : Hid (onceB L = true) := once_ok fun i x y hi hx hy => hH.out.1 i x y (by omega) hx hy
      have hL2 := hL.keep hH.out.2
      go_wp2_with fail
      refine (spec_index _ _ _ _ hL2 hf hm).mono ?_
      rintro e w1 ⟨rfl, hb⟩
      have hP : Hid (Below w.heap.size w w1) := hH.out.2.trans (hb.mono hH.out.2.size)
      clear hb hL2
      go_wp2_with fail
      go_ret
      exact ⟨ret_bool (by rw [onceOk, hO.out, Bool.and_true]), hP.out⟩

end Go.Proofs.Ytgjhmpgofmmniaa

/- The contracts of laws.wpEntries and of DrawIndexOk, over the seat's translation. -/
namespace Go.Proofs.Ytgjhmpgofmmniaa
open Go.RowKit

theorem neq_entry (c : AEnt) (w : World) :
    (binOp .neq 29 (.agg #[.int .i64 c.k, .int .i64 c.n, .string c.s, .int .i64 c.id]) (.agg #[.int .i64 c.k, .int .i64 c.n, .string c.s, .int .i64 c.id])).run Try.prog w = .ok (.bool false) w := by
  go_simp

/-- What a draw of entries answers: entries that lie in W, small ones, and no more than 16. -/
structure DrE (w : World) (a : Option Addr) (c : Nat) (L : List AEnt) (W : World) : Prop where
  ents : EntsAt W a L
  nil : a = none → c = 0
  cap : L.length ≤ c
  len : L.length ≤ 16
  small : ∀ d ∈ L, d.s.size ≤ 5
  bel : Below w.heap.size w W
theorem DrE.fit {w : World} {a : Option Addr} {c : Nat} {L : List AEnt} {W : World} (h : DrE w a c L W) : ∀ d ∈ L, d.fit := fun d hd => by
  have := h.small d hd
  unfold AEnt.fit maxLen
  omega
theorem DrE.next {w : World} {a : Option Addr} {c : Nat} {L : List AEnt} {W W' : World} (h : DrE w a c L W) (hb : Below W.heap.size W W') : DrE w a c L W' :=
  ⟨h.ents.keep hb, h.nil, h.cap, h.len, h.small, h.bel.trans (hb.mono h.bel.size)⟩
theorem DrE.of {w : World} {g : Nat} {w1 W : World} {a : Option Addr} {c : Nat} {L : List AEnt} (hb : Below w.heap.size w w1) (hB : w.heap.size ≤ g) (hR : RowE w1.heap.size (.slice a L.length c) L W) (hl : L.length ≤ 16) (hs : ∀ d ∈ L, d.s.size ≤ 5) (hu : Upd g w1 W) : DrE w a c L W := by
  obtain ⟨h0, hc⟩ := hR.caps rfl
  exact ⟨hR.same, h0, hc, hl, hs, hb.trans (hu.below hB hb.size)⟩

set_option maxRecDepth 100000 in
set_option maxHeartbeats 1000000 in
theorem wp_entries (a b : Option Addr) (cap cap' : Nat) (L : List AEnt) (w : World) (ha : EntsAt w a L) (hb : EntsAt w b L) (hm : L.length ≤ maxLen) :
    Calls Try.prog 23 #[.slice a L.length cap, .slice b L.length cap'] w fun e w' => e = .returned (.bool true) ∧ Below w.heap.size w w' := by
  unfold maxLen at hm
  go_enter Try.func23, Try.ntmps23
  go_wp2_with fail
  go_loopw [5] (fun i wr => ∃ k : Nat, k ≤ L.length ∧ i = .int .i64 k ∧ Hid (Below w.heap.size w wr)) (fun i _ => L.length - (intOf i).toNat)
  case atStart => exact ⟨0, Nat.zero_le _, rfl, Below.refl _ _⟩
  case round =>
    obtain ⟨k, hk, rfl, hH⟩ := hrel
    by_cases hlt : k < L.length
    · obtain ⟨b1, o1, hab1, hbl1, hr1⟩ := (ha.keep hH.out).at hlt
      obtain ⟨b2, o2, hab2, hbl2, hr2⟩ := (hb.keep hH.out).at hlt
      revert hr1 hr2
      generalize L[k] = c
      intro hr1 hr2
      have hix : ∀ wx, (Instr.indexAt 23 (.slice a L.length cap) (.int .i64 k)).run Try.prog wx = .ok (.pointer (some ⟨b1, o1 + k * 4, none⟩)) wx := fun wx => by
        rw [hab1]; exact run_ix4 _ _ _ _ _ _ _ wx hlt Try.underlying23 (Try.sizeOf29 wx)
      have hiy : ∀ wx, (Instr.indexAt 23 (.slice b L.length cap') (.int .i64 k)).run Try.prog wx = .ok (.pointer (some ⟨b2, o2 + k * 4, none⟩)) wx := fun wx => by
        rw [hab2]; exact run_ix4 _ _ _ _ _ _ _ wx hlt Try.underlying23 (Try.sizeOf29 wx)
      have hT1 := cells4_of hr1
      have hT2 := cells4_of hr2
      have hq := neq_entry c
      clear hab1 hab2 ha hb hbl1 hbl2 hr1 hr2
      go_wp2_with fail
      go_quiet (fail)
      have hP : Hid (Below w.heap.size w (wr.drewN nq)) := hH.out.trans (quiet_below _ _ _)
      go_wp2_with fail
      go_roundw
      case rel => exact ⟨k + 1, by omega, by go_num, hP⟩
      case measure => simp [intOf]; omega
    · have hkl : k = L.length := by omega
      subst hkl
      go_wp2_with fail
      go_ret
      exact ⟨rfl, hH.out⟩

set_option maxHeartbeats 1000000 in
theorem draw_iok (x : Option Addr) (len cap : Nat) (w : World) (hlc : len ≤ cap) (hcap : cap ≤ maxLen) (hc : IsCode w.heap.size x len w) :
    Calls Try.prog 13 #[.slice x len cap] w fun e w' => ∃ a c L, e = .returned (.slice a (List.length L) c) ∧ DrE w a c L w' := by
  go_enter Try.func13, Try.ntmps13
  go_wp2_with fail
  refine (l10_open w.heap.size w.heap.size x len cap w rfl (Nat.le_refl _) hlc hcap hc).mono ?_
  rintro e w1 ⟨rfl, hr1, hb1⟩
  have H1 : Hid (Rd w.heap.size w.heap.size 0 w1 ∧ Below w.heap.size w w1) := ⟨hr1, hb1⟩
  clear hr1 hb1 hc
  go_wp2_with fail
  refine (l8_some w.heap.size w.heap.size 0 w1 H1.out.1 (by omega)).mono ?_
  rintro e w2 ⟨a, c, L, y, q, rfl, hR, hl, hs, hy, hq, hr2, hu2⟩
  have hD : Hid (DrE w a c L w2) := DrE.of H1.out.2 (Nat.le_refl _) hR hl hs hu2
  clear hR hr2 hu2 H1
  go_wp2_with fail
  go_ret
  exact ⟨_, _, _, rfl, hD.out.next (alloc_below _ _)⟩

end Go.Proofs.Ytgjhmpgofmmniaa

/- Rows of ints. -/
namespace Go.Proofs.Ytgjhmpgofmmniaa
open Go.RowKit

/-- The ints L lie in W from where the slice begins. -/
def IntsAt (W : World) (a : Option Addr) (L : List Int) : Prop :=
  L = [] ∨ ∃ b o, a = some ⟨b, o, none⟩ ∧ b < W.heap.size ∧ ∀ i c, L[i]? = some c → W.cell? ⟨b, o + i, none⟩ = some (.int .i64 c)

theorem IntsAt.keep {W W' : World} {a : Option Addr} {L : List Int} (h : IntsAt W a L) (hb : Below W.heap.size W W') : IntsAt W' a L := by
  rcases h with h | ⟨b, o, ha, hlt, hr⟩
  · exact Or.inl h
  · exact Or.inr ⟨b, o, ha, Nat.lt_of_lt_of_le hlt hb.size, fun i c hc => by rw [(bcell hb).1 _ _ hlt]; exact hr i c hc⟩

theorem IntsAt.at {W : World} {a : Option Addr} {L : List Int} (h : IntsAt W a L) {k : Nat} (hk : k < L.length) :
    ∃ b o, a = some ⟨b, o, none⟩ ∧ b < W.heap.size ∧ W.cell? ⟨b, o + k, none⟩ = some (.int .i64 L[k]) := by
  rcases h with h | ⟨b, o, ha, hlt, hr⟩
  · subst h; simp at hk
  · exact ⟨b, o, ha, hlt, hr k _ (List.getElem?_eq_getElem hk)⟩

theorem run_ix1 {P : Program} (t e : TypeId) (b o len cap k : Nat) (w : World) (hk : k < len) (ht : P.underlying t = some (.slice e)) (hs : (sizeOf e).run P w = .ok 1 w) :
    (Instr.indexAt t (.slice (some ⟨b, o, none⟩) len cap) (.int .i64 k)).run P w = .ok (.pointer (some ⟨b, o + k, none⟩)) w := by
  have hE : P.elem t = e := by simp [Program.elem, ht]
  rw [run_indexAt_slice w t _ len cap .i64 k (by rw [hE]; exact ht), if_pos ⟨by omega, by omega⟩, hE, hs]
  simp [Addr.add_mid]

theorem run_ix1o {P : Program} (t e : TypeId) (a : Option Addr) (B len cap k : Nat) (w : World) (ha : a = some ⟨B, 0, none⟩ ∨ len = 0) (hk : k < len) (ht : P.underlying t = some (.slice e)) (hs : (sizeOf e).run P w = .ok 1 w) :
    (Instr.indexAt t (.slice a len cap) (.int .i64 k)).run P w = .ok (.pointer (some ⟨B, k, none⟩)) w := by
  rcases ha with rfl | h
  · have := run_ix1 t e B 0 len cap k w hk ht hs
    rwa [Nat.zero_add] at this
  · omega

/-- Block B holds n ints that may be written; the first i bear marks from k on; nothing else has turned. -/
def MarkedI (w : World) (B n k i : Nat) (W : World) : Prop :=
  Turn B w W ∧ B < W.heap.size ∧ W.there B 0 n ∧ ∀ j, j < i → W.cell? ⟨B, j, none⟩ = some (.int .i64 ((k + j : Nat) : Int))

theorem there1_of {W : World} {B n i : Nat} (h : W.there B 0 n) (hi : i < n) : ∃ v, W.cell? ⟨B, i, none⟩ = some v ∧ W.frozen? ⟨B, i, none⟩ = false := by
  have := h i hi
  rw [Nat.zero_add] at this
  simpa [Option.isSome_iff_exists] using this

theorem MarkedI.set {w : World} {B n k i : Nat} {W : World} (h : MarkedI w B n k i W) (hi : i < n) : MarkedI w B n k (i + 1) (W.setCell ⟨B, i, none⟩ (.int .i64 ((k + i : Nat) : Int))) := by
  obtain ⟨h1, h2, h3, h4⟩ := h
  obtain ⟨v, hv, -⟩ := there1_of h3 hi
  refine ⟨h1.set _ _, by simpa [World.setCell] using h2, World.there_setCells h3 B i [.int .i64 ((k + i : Nat) : Int)], fun j hj => ?_⟩
  by_cases hji : j = i
  · subst hji
    exact World.cell?_setCell_same' _ _ _ (by rw [hv]; rfl)
  · have hne : (⟨B, i, none⟩ : Addr) ≠ ⟨B, j, none⟩ := fun e => hji (by simpa using e.symm)
    exact (World.cell?_setCell_other _ _ _ _ hne).trans (h4 j (by omega))

end Go.Proofs.Ytgjhmpgofmmniaa

/- The contracts of laws.wpNums, DrawIndexPut and DrawIndexOff, over the seat's translation. -/
namespace Go.Proofs.Ytgjhmpgofmmniaa
open Go.RowKit

theorem index_asc {L : List AEnt} (h : indexOk L = true) : Asc L := by
  unfold indexOk at h
  simp only [Bool.and_eq_true] at h
  exact (ascB_iff L).1 h.2.2
theorem index_val {L : List AEnt} (h : indexOk L = true) {c : AEnt} (hc : c ∈ L) : valOk c.k c.n c.s = true := by
  unfold indexOk at h
  simp only [Bool.and_eq_true, List.all_eq_true] at h
  have := h.2.1 c hc
  unfold AEnt.ok at this
  simp only [Bool.and_eq_true] at this
  exact this.1

set_option maxRecDepth 100000 in
set_option maxHeartbeats 1000000 in
theorem wp_nums (a b : Option Addr) (cap cap' : Nat) (L : List Int) (w : World) (ha : IntsAt w a L) (hb : IntsAt w b L) (hm : L.length ≤ maxLen) :
    Calls Try.prog 16 #[.slice a L.length cap, .slice b L.length cap'] w fun e w' => e = .returned (.bool true) ∧ Below w.heap.size w w' := by
  unfold maxLen at hm
  go_enter Try.func16, Try.ntmps16
  go_wp2_with fail
  go_loopw [5] (fun i wr => ∃ k : Nat, k ≤ L.length ∧ i = .int .i64 k ∧ Hid (Below w.heap.size w wr)) (fun i _ => L.length - (intOf i).toNat)
  case atStart => exact ⟨0, Nat.zero_le _, rfl, Below.refl _ _⟩
  case round =>
    obtain ⟨k, hk, rfl, hH⟩ := hrel
    by_cases hlt : k < L.length
    · obtain ⟨b1, o1, hab1, hbl1, hr1⟩ := (ha.keep hH.out).at hlt
      obtain ⟨b2, o2, hab2, hbl2, hr2⟩ := (hb.keep hH.out).at hlt
      revert hr1 hr2
      generalize L[k] = c
      intro hr1 hr2
      have hix : ∀ wx, (Instr.indexAt 30 (.slice a L.length cap) (.int .i64 k)).run Try.prog wx = .ok (.pointer (some ⟨b1, o1 + k, none⟩)) wx := fun wx => by
        rw [hab1]; exact run_ix1 _ _ _ _ _ _ _ wx hlt Try.underlying30 (Try.sizeOf3 wx)
      have hiy : ∀ wx, (Instr.indexAt 30 (.slice b L.length cap') (.int .i64 k)).run Try.prog wx = .ok (.pointer (some ⟨b2, o2 + k, none⟩)) wx := fun wx => by
        rw [hab2]; exact run_ix1 _ _ _ _ _ _ _ wx hlt Try.underlying30 (Try.sizeOf3 wx)
      clear hab1 hab2 ha hb hbl1 hbl2
      go_wp2_with fail
      go_quiet (fail)
      have hP : Hid (Below w.heap.size w (wr.drewN nq)) := hH.out.trans (quiet_below _ _ _)
      go_wp2_with fail
      go_roundw
      case rel => exact ⟨k + 1, by omega, by go_num, hP⟩
      case measure => simp [intOf]; omega
    · have hkl : k = L.length := by omega
      subst hkl
      go_wp2_with fail
      go_ret
      exact ⟨rfl, hH.out⟩

set_option maxHeartbeats 1000000 in
theorem draw_iput (x : Option Addr) (len cap : Nat) (w : World) (hlc : len ≤ cap) (hcap : cap ≤ maxLen) (hc : IsCode w.heap.size x len w) :
    Calls Try.prog 20 #[.slice x len cap] w fun e w' => ∃ a c L y, e = .returned (.tuple #[.slice a (List.length L) c, .agg #[.int .i64 (AEnt.k y), .int .i64 y.n, .string y.s, .int .i64 y.id]]) ∧ DrE w a c L w' ∧ y.s.size ≤ 5 := by
  have b0 := alloc_below w (.cells #[.int .i64 0, .int .i64 0, .string ⟨#[]⟩, .int .i64 0] 29)
  have H0 : Hid (IsCode w.heap.size x len (w.alloc (.cells #[.int .i64 0, .int .i64 0, .string ⟨#[]⟩, .int .i64 0] 29)) ∧ BoxE w.heap.size ⟨0, 0, ⟨#[]⟩, 0⟩ (w.alloc (.cells #[.int .i64 0, .int .i64 0, .string ⟨#[]⟩, .int .i64 0] 29)) ∧ Below w.heap.size w (w.alloc (.cells #[.int .i64 0, .int .i64 0, .string ⟨#[]⟩, .int .i64 0] 29))) := ⟨hc.keep b0, BoxE.new w ⟨0, 0, ⟨#[]⟩, 0⟩ _, b0⟩
  clear hc b0
  go_enter Try.func20, Try.ntmps20
  go_wp2_with fail
  refine (l10_open w.heap.size (w.heap.size + 1) x len cap _ (by rw [size_alloc]) (by rw [size_alloc]; omega) hlc hcap H0.out.1).mono ?_
  rintro e w1 ⟨rfl, hr1, hb1⟩
  have H1 : Hid (Rd w.heap.size (w.heap.size + 1) 0 w1 ∧ BoxE w.heap.size ⟨0, 0, ⟨#[]⟩, 0⟩ w1 ∧ Below w.heap.size w w1) := ⟨hr1, H0.out.2.1.keep hb1, H0.out.2.2.trans (hb1.mono (by rw [size_alloc]; omega))⟩
  clear hr1 hb1 H0
  go_wp2_with fail
  refine (l8_some w.heap.size (w.heap.size + 1) 0 w1 H1.out.1 (by omega)).mono ?_
  rintro e w2 ⟨a, c, L, y, q, rfl, hR, hl, hs, hy, hq, hr2, hu2⟩
  have hz1 : w.heap.size + 1 < w1.heap.size := H1.out.1.2.1
  have hrx := (H1.out.2.1.apart hu2 (by omega)).all
  have hD : Hid (DrE w a c L ((((w2.setCell ⟨w.heap.size, 0, none⟩ (.int .i64 y.k)).setCell ⟨w.heap.size, 1, none⟩ (.int .i64 y.n)).setCell ⟨w.heap.size, 2, none⟩ (.string y.s)).setCell ⟨w.heap.size, 3, none⟩ (.int .i64 y.id))) := by
    have hv : Upd w.heap.size w2 ((((w2.setCell ⟨w.heap.size, 0, none⟩ (.int .i64 y.k)).setCell ⟨w.heap.size, 1, none⟩ (.int .i64 y.n)).setCell ⟨w.heap.size, 2, none⟩ (.string y.s)).setCell ⟨w.heap.size, 3, none⟩ (.int .i64 y.id)) := Upd.set4 _ _ _ _ _
    obtain ⟨h0, hc⟩ := hR.caps rfl
    exact ⟨(hR.upd hv (by omega)).same, h0, hc, hl, hs, (H1.out.2.2.trans (hu2.below (by omega) H1.out.2.2.size)).trans (hv.below (Nat.le_refl _) (by have := hu2.size; omega))⟩
  clear hR hr2 hu2 H1
  go_wp2_with fail
  exact bodyPost_ret (v := .tuple #[.slice a L.length c, .agg #[.int .i64 y.k, .int .i64 y.n, .string y.s, .int .i64 y.id]]) (by simp [results, Try.results20, go_sem, hrx]) rfl ⟨_, _, _, _, rfl, hD.out, hy⟩

set_option maxHeartbeats 1000000 in
theorem draw_ioff (x : Option Addr) (len cap : Nat) (w : World) (hlc : len ≤ cap) (hcap : cap ≤ maxLen) (hc : IsCode w.heap.size x len w) :
    Calls Try.prog 25 #[.slice x len cap] w fun e w' => ∃ a c L y, e = .returned (.tuple #[.slice a (List.length L) c, .agg #[.int .i64 (AEnt.k y), .int .i64 y.n, .string y.s, .int .i64 y.id]]) ∧ DrE w a c L w' ∧ y.s.size ≤ 5 := by
  have b0 := alloc_below w (.cells #[.int .i64 0, .int .i64 0, .string ⟨#[]⟩, .int .i64 0] 29)
  have H0 : Hid (IsCode w.heap.size x len (w.alloc (.cells #[.int .i64 0, .int .i64 0, .string ⟨#[]⟩, .int .i64 0] 29)) ∧ BoxE w.heap.size ⟨0, 0, ⟨#[]⟩, 0⟩ (w.alloc (.cells #[.int .i64 0, .int .i64 0, .string ⟨#[]⟩, .int .i64 0] 29)) ∧ Below w.heap.size w (w.alloc (.cells #[.int .i64 0, .int .i64 0, .string ⟨#[]⟩, .int .i64 0] 29))) := ⟨hc.keep b0, BoxE.new w ⟨0, 0, ⟨#[]⟩, 0⟩ _, b0⟩
  clear hc b0
  go_enter Try.func25, Try.ntmps25
  go_wp2_with fail
  refine (l10_open w.heap.size (w.heap.size + 1) x len cap _ (by rw [size_alloc]) (by rw [size_alloc]; omega) hlc hcap H0.out.1).mono ?_
  rintro e w1 ⟨rfl, hr1, hb1⟩
  have H1 : Hid (Rd w.heap.size (w.heap.size + 1) 0 w1 ∧ BoxE w.heap.size ⟨0, 0, ⟨#[]⟩, 0⟩ w1 ∧ Below w.heap.size w w1) := ⟨hr1, H0.out.2.1.keep hb1, H0.out.2.2.trans (hb1.mono (by rw [size_alloc]; omega))⟩
  clear hr1 hb1 H0
  go_wp2_with fail
  refine (l8_some w.heap.size (w.heap.size + 1) 0 w1 H1.out.1 (by omega)).mono ?_
  rintro e w2 ⟨a, c, L, y, q, rfl, hR, hl, hs, hy, hq, hr2, hu2⟩
  have hz1 : w.heap.size + 1 < w1.heap.size := H1.out.1.2.1
  have hrx := (H1.out.2.1.apart hu2 (by omega)).all
  have hD : Hid (DrE w a c L ((((w2.setCell ⟨w.heap.size, 0, none⟩ (.int .i64 y.k)).setCell ⟨w.heap.size, 1, none⟩ (.int .i64 y.n)).setCell ⟨w.heap.size, 2, none⟩ (.string y.s)).setCell ⟨w.heap.size, 3, none⟩ (.int .i64 y.id))) := by
    have hv : Upd w.heap.size w2 ((((w2.setCell ⟨w.heap.size, 0, none⟩ (.int .i64 y.k)).setCell ⟨w.heap.size, 1, none⟩ (.int .i64 y.n)).setCell ⟨w.heap.size, 2, none⟩ (.string y.s)).setCell ⟨w.heap.size, 3, none⟩ (.int .i64 y.id)) := Upd.set4 _ _ _ _ _
    obtain ⟨h0, hc⟩ := hR.caps rfl
    exact ⟨(hR.upd hv (by omega)).same, h0, hc, hl, hs, (H1.out.2.2.trans (hu2.below (by omega) H1.out.2.2.size)).trans (hv.below (Nat.le_refl _) (by have := hu2.size; omega))⟩
  clear hR hr2 hu2 H1
  go_wp2_with fail
  exact bodyPost_ret (v := .tuple #[.slice a L.length c, .agg #[.int .i64 y.k, .int .i64 y.n, .string y.s, .int .i64 y.id]]) (by simp [results, Try.results25, go_sem, hrx]) rfl ⟨_, _, _, _, rfl, hD.out, hy⟩

end Go.Proofs.Ytgjhmpgofmmniaa

/- The contract of spec.DrawIndexSpan, over the seat's translation. -/
namespace Go.Proofs.Ytgjhmpgofmmniaa
open Go.RowKit

theorem Upd.set3d {b : Nat} (W : World) (x y z : Value) : Upd b W (((W.setCell ⟨b, 0, none⟩ x).setCell ⟨b, 1, none⟩ y).setCell ⟨b, 2, none⟩ z).drew := (Upd.set3 W x y z).trans (Upd.ofBelow (Below.refl _ _).drew)

/-- While a span is drawn: entries, an entry's box, a value's box, two boxes for the answer, and the reader. -/
structure S7 (B g q : Nat) (w : World) (a : Option Addr) (c : Nat) (L : List AEnt) (be : Nat) (y : AEnt) (bv : Nat) (v : AEnt) (W : World) : Prop where
  row : RowE (g + 1) (.slice a L.length c) L W
  ne : ∀ A, a = some A → A.block ≠ bv
  r0 : Box3 B (.int .i64 0) (.int .i64 0) (.string ⟨#[]⟩) W
  r1 : Box3 (B + 1) (.int .i64 0) (.int .i64 0) (.string ⟨#[]⟩) W
  e : BoxE be y W
  v : Box3 bv (.int .i64 v.k) (.int .i64 v.n) (.string v.s) W
  rd : Rd B g q W
  bel : Below B w W
  o1 : B + 1 < g
  o2 : g < be
  o3 : be < bv
theorem S7.step {B g q q' : Nat} {w : World} {a : Option Addr} {c : Nat} {L : List AEnt} {be : Nat} {y : AEnt} {bv : Nat} {v : AEnt} {W W' : World} (h : S7 B g q w a c L be y bv v W) (hr : Rd B g q' W') (hu : Upd g W W') : S7 B g q' w a c L be y bv v W' := by
  obtain ⟨h1, h2, h3, h4, h5, h6, h7, h8, h9, h10, h11⟩ := h
  exact ⟨h1.upd hu (by omega), h2, h3.upd hu (by omega), h4.upd hu (by omega), h5.apart hu (by omega), h6.upd hu (by omega), hr, h8.trans (hu.below (by omega) (Nat.le_of_lt h3.1)), h9, h10, h11⟩
theorem Box3.set {b : Nat} {x y z : Value} {W : World} (h : Box3 b x y z W) (x' y' z' : Value) : Box3 b x' y' z' (((W.setCell ⟨b, 0, none⟩ x').setCell ⟨b, 1, none⟩ y').setCell ⟨b, 2, none⟩ z') := by
  obtain ⟨hl, h0, h1, h2, f0, f1, f2⟩ := h
  refine ⟨by simpa [World.setCell] using hl, ?_, ?_, ?_, ?_, ?_, ?_⟩
  all_goals go_simp
theorem S7.put {B g q : Nat} {w : World} {a : Option Addr} {c : Nat} {L : List AEnt} {be : Nat} {y : AEnt} {bv : Nat} {v : AEnt} {W : World} (h : S7 B g q w a c L be y bv v W) (u : AEnt) : S7 B g q w a c L be y bv u (((W.setCell ⟨bv, 0, none⟩ (.int .i64 u.k)).setCell ⟨bv, 1, none⟩ (.int .i64 u.n)).setCell ⟨bv, 2, none⟩ (.string u.s)) := by
  have hu : Upd bv W (((W.setCell ⟨bv, 0, none⟩ (.int .i64 u.k)).setCell ⟨bv, 1, none⟩ (.int .i64 u.n)).setCell ⟨bv, 2, none⟩ (.string u.s)) := Upd.set3 _ _ _ _
  obtain ⟨h1, h2, h3, h4, h5, h6, h7, h8, h9, h10, h11⟩ := h
  exact ⟨h1.apart (upd_turn hu) h2, h2, h3.upd hu (by omega), h4.upd hu (by omega), h5.apart hu (by omega), h6.set _ _ _, h7.other hu (by omega) (by omega), h8.trans (hu.below (by omega) (Nat.le_of_lt h3.1)), h9, h10, h11⟩
/-- The boxes of the answer are filled. -/
theorem S7.done {B g q : Nat} {w : World} {a : Option Addr} {c : Nat} {L : List AEnt} {be : Nat} {y : AEnt} {bv : Nat} {v : AEnt} {W W1 W2 : World} (h : S7 B g q w a c L be y bv v W) (hB : B = w.heap.size) (hl : L.length ≤ 16) (hs : ∀ d ∈ L, d.s.size ≤ 5) (h1 : Upd B W W1) (h2 : Upd (B + 1) W1 W2) : DrE w a c L W2 := by
  subst hB
  have hr := (h.row.upd h1 (by have := h.o1; omega)).upd h2 (by have := h.o1; omega)
  obtain ⟨h0, hc⟩ := hr.caps rfl
  have hb1 := h1.below (Nat.le_refl _) h.bel.size
  exact ⟨hr.same, h0, hc, hl, hs, (h.bel.trans hb1).trans (h2.below (by omega) (by have := h.bel.size; have := h1.size; omega))⟩

set_option maxRecDepth 100000 in
set_option maxHeartbeats 2000000 in
theorem draw_ispan (x : Option Addr) (len cap : Nat) (w : World) (hlc : len ≤ cap) (hcap : cap ≤ maxLen) (hc : IsCode w.heap.size x len w) :
    Calls Try.prog 17 #[.slice x len cap] w fun e w' => ∃ a c L y v, e = .returned (.tuple #[.slice a (List.length L) c, .agg #[.int .i64 (AEnt.k y), .int .i64 y.n, .string y.s], .agg #[.int .i64 (AEnt.k v), .int .i64 v.n, .string v.s]]) ∧ DrE w a c L w' ∧ y.s.size ≤ 5 ∧ v.s.size ≤ 5 := by
  have b1 := alloc_below w (.cells #[.int .i64 0, .int .i64 0, .string ⟨#[]⟩] 27)
  have b2 := alloc_below (w.alloc (.cells #[.int .i64 0, .int .i64 0, .string ⟨#[]⟩] 27)) (.cells #[.int .i64 0, .int .i64 0, .string ⟨#[]⟩] 27)
  have bb : Below w.heap.size w ((w.alloc (.cells #[.int .i64 0, .int .i64 0, .string ⟨#[]⟩] 27)).alloc (.cells #[.int .i64 0, .int .i64 0, .string ⟨#[]⟩] 27)) := b1.trans (b2.mono (by simp))
  have H0 : Hid (IsCode w.heap.size x len ((w.alloc (.cells #[.int .i64 0, .int .i64 0, .string ⟨#[]⟩] 27)).alloc (.cells #[.int .i64 0, .int .i64 0, .string ⟨#[]⟩] 27)) ∧ Box3 w.heap.size (.int .i64 0) (.int .i64 0) (.string ⟨#[]⟩) ((w.alloc (.cells #[.int .i64 0, .int .i64 0, .string ⟨#[]⟩] 27)).alloc (.cells #[.int .i64 0, .int .i64 0, .string ⟨#[]⟩] 27)) ∧ Box3 (w.heap.size + 1) (.int .i64 0) (.int .i64 0) (.string ⟨#[]⟩) ((w.alloc (.cells #[.int .i64 0, .int .i64 0, .string ⟨#[]⟩] 27)).alloc (.cells #[.int .i64 0, .int .i64 0, .string ⟨#[]⟩] 27)) ∧ Below w.heap.size w ((w.alloc (.cells #[.int .i64 0, .int .i64 0, .string ⟨#[]⟩] 27)).alloc (.cells #[.int .i64 0, .int .i64 0, .string ⟨#[]⟩] 27))) := ⟨hc.keep bb, (box3 w _ _ _ 27).keep b2, box3b w _ _ _ _ 27, bb⟩
  clear hc b1 b2 bb
  go_enter Try.func17, Try.ntmps17
  go_wp2_with fail
  refine (l10_open w.heap.size (w.heap.size + 2) x len cap _ (by simp) (by simp; omega) hlc hcap H0.out.1).mono ?_
  rintro e w1 ⟨rfl, hr1, hb1⟩
  have H1 : Hid (Rd w.heap.size (w.heap.size + 2) 0 w1 ∧ Box3 w.heap.size (.int .i64 0) (.int .i64 0) (.string ⟨#[]⟩) w1 ∧ Box3 (w.heap.size + 1) (.int .i64 0) (.int .i64 0) (.string ⟨#[]⟩) w1 ∧ Below w.heap.size w w1) := ⟨hr1, H0.out.2.1.keep hb1, H0.out.2.2.1.keep hb1, H0.out.2.2.2.trans (hb1.mono (by simp; omega))⟩
  clear hr1 hb1 H0
  go_wp2_with fail
  refine (l8_some w.heap.size (w.heap.size + 2) 0 w1 H1.out.1 (by omega)).mono ?_
  rintro e w2 ⟨a, c, L, y, q, rfl, hR, hl, hs, hy, hq, hr2, hu2⟩
  have hz1 : w.heap.size + 2 < w1.heap.size := H1.out.1.2.1
  have hz2 := hu2.size
  have ba := alloc_below w2 (.cells #[.int .i64 y.k, .int .i64 y.n, .string y.s, .int .i64 y.id] 29)
  have hhi := hR.hi
  have H2 : Hid ((RowE (w.heap.size + 3) (.slice a L.length c) L (w2.alloc (.cells #[.int .i64 y.k, .int .i64 y.n, .string y.s, .int .i64 y.id] 29)) ∧ ∀ A, a = some A → A.block < w2.heap.size) ∧ Box3 w.heap.size (.int .i64 0) (.int .i64 0) (.string ⟨#[]⟩) (w2.alloc (.cells #[.int .i64 y.k, .int .i64 y.n, .string y.s, .int .i64 y.id] 29)) ∧ Box3 (w.heap.size + 1) (.int .i64 0) (.int .i64 0) (.string ⟨#[]⟩) (w2.alloc (.cells #[.int .i64 y.k, .int .i64 y.n, .string y.s, .int .i64 y.id] 29)) ∧ BoxE w2.heap.size y (w2.alloc (.cells #[.int .i64 y.k, .int .i64 y.n, .string y.s, .int .i64 y.id] 29)) ∧ Rd w.heap.size (w.heap.size + 2) q (w2.alloc (.cells #[.int .i64 y.k, .int .i64 y.n, .string y.s, .int .i64 y.id] 29)) ∧ Below w.heap.size w (w2.alloc (.cells #[.int .i64 y.k, .int .i64 y.n, .string y.s, .int .i64 y.id] 29))) :=
    ⟨⟨(hR.mono (by omega)).next ba, fun A hA => (hhi A hA).2⟩, (H1.out.2.1.upd hu2 (by omega)).keep ba, (H1.out.2.2.1.upd hu2 (by omega)).keep ba, BoxE.new _ _ _, hr2.keep ba, (H1.out.2.2.2.trans (hu2.below (by omega) H1.out.2.2.2.size)).trans (ba.mono (by omega))⟩
  clear hR hr2 hu2 H1 ba hhi
  go_wp2_with fail
  refine (pick_any w.heap.size (w.heap.size + 2) q _ _ H2.out.2.2.2.2.1 (by omega) (by omega) (by omega)).mono ?_
  rintro e w3 ⟨v3, rfl, hv3, hr3, hu3⟩
  have hz3 := hu3.size
  rw [size_alloc] at hz3
  have H3 : Hid ((RowE (w.heap.size + 3) (.slice a L.length c) L w3 ∧ ∀ A, a = some A → A.block < w2.heap.size) ∧ Box3 w.heap.size (.int .i64 0) (.int .i64 0) (.string ⟨#[]⟩) w3 ∧ Box3 (w.heap.size + 1) (.int .i64 0) (.int .i64 0) (.string ⟨#[]⟩) w3 ∧ BoxE w2.heap.size y w3 ∧ Rd w.heap.size (w.heap.size + 2) (q + 1) w3 ∧ Below w.heap.size w w3) :=
    ⟨⟨H2.out.1.1.upd hu3 (by omega), H2.out.1.2⟩, H2.out.2.1.upd hu3 (by omega), H2.out.2.2.1.upd hu3 (by omega), H2.out.2.2.2.1.apart hu3 (by omega), hr3, H2.out.2.2.2.2.2.trans (hu3.below (by omega) H2.out.2.2.2.2.2.size)⟩
  clear hr3 hu3 H2
  go_wp2_with fail
  refine (l1_some w.heap.size (w.heap.size + 2) (q + 1) _ _ H3.out.2.2.2.2.1 (by omega)).mono ?_
  rintro e w4 ⟨k, n, s, q4, rfl, hks, hq4, hr4, hu4⟩
  have hz4 := hu4.size
  have ba := alloc_below w4 (.cells #[.int .i64 k, .int .i64 n, .string s] 27)
  have H4 : Hid (S7 w.heap.size (w.heap.size + 2) q4 w a c L w2.heap.size y w4.heap.size ⟨k, n, s, 0⟩ (w4.alloc (.cells #[.int .i64 k, .int .i64 n, .string s] 27))) :=
    ⟨(H3.out.1.1.upd hu4 (by omega)).next ba, fun A hA => by have := H3.out.1.2 A hA; omega, (H3.out.2.1.upd hu4 (by omega)).keep ba, (H3.out.2.2.1.upd hu4 (by omega)).keep ba, (H3.out.2.2.2.1.apart hu4 (by omega)).keep ba, box3 w4 _ _ _ _, hr4.keep ba, (H3.out.2.2.2.2.2.trans (hu4.below (by omega) H3.out.2.2.2.2.2.size)).trans (ba.mono (by omega)), by omega, by omega, by omega⟩
  clear hr4 hu4 H3 ba
  have HL : Hid (∀ d ∈ L, d.s.size ≤ 5) := hs
  clear hs
  by_cases hl0 : 0 < L.length
  · have hli : (0 : Int) < L.length := by omega
    go_wp2_with fail
    refine (pick_any w.heap.size (w.heap.size + 2) q4 _ _ H4.out.rd (by omega) (by omega) (by omega)).mono ?_
    rintro e w5 ⟨v5, rfl, hv5, hr5, hu5⟩
    have H5 : Hid (S7 w.heap.size (w.heap.size + 2) (q4 + 1) w a c L w2.heap.size y w4.heap.size ⟨k, n, s, 0⟩ w5) := H4.out.step hr5 hu5
    clear hr5 hu5 H4
    by_cases hv0 : ¬ 0 < v5
    · have HZ : Hid _ := H5.out
      clear H5
      have hbx := HZ.out.e.all
      obtain ⟨-, v0, v1, v2, -, -, -⟩ := HZ.out.v
      obtain ⟨-, p0, p1, p2, pf0, pf1, pf2⟩ := HZ.out.r0
      obtain ⟨-, q0, q1, q2, qf0, qf1, qf2⟩ := HZ.out.r1
      have ho1 := HZ.out.o1
      go_wp2_with fail
      go_region_with (fail)
      all_goals
        go_wp2_with fail
        exact bodyPost_ret (v := .tuple #[.slice a L.length c, .agg #[.int .i64 y.k, .int .i64 y.n, .string y.s], .agg #[.int .i64 k, .int .i64 n, .string s]]) (by simp [results, Try.results17, go_sem, p0, p1, p2, q0, q1, q2]) rfl ⟨_, _, L, y, ⟨k, n, s, 0⟩, rfl, HZ.out.done rfl (by omega) HL.out (Upd.set3 _ _ _ _) (Upd.set3d _ _ _ _), hy, hks⟩
    · go_wp2_with fail
      refine (pick_any w.heap.size (w.heap.size + 2) (q4 + 1) _ _ H5.out.rd (by omega) (by omega) (by omega)).mono ?_
      rintro e w6 ⟨v6, rfl, hv6, hr6, hu6⟩
      have H6 : Hid (S7 w.heap.size (w.heap.size + 2) (q4 + 1 + 1) w a c L w2.heap.size y w4.heap.size ⟨k, n, s, 0⟩ w6) := H5.out.step hr6 hu6
      clear hr6 hu6 H5
      have hv6' : v6 < L.length := by omega
      obtain ⟨b', o', hab, hbl, hr⟩ := H6.out.row.same.at hv6'
      have hy5 : Hid (L[v6].s.size ≤ 5) := HL.out _ (List.getElem_mem hv6')
      revert hr hy5
      generalize L[v6] = u
      intro hr hy5
      have hix : ∀ wx, (Instr.indexAt 23 (.slice a L.length c) (.int .i64 v6)).run Try.prog wx = .ok (.pointer (some ⟨b', o' + v6 * 4, none⟩)) wx := fun wx => by
        rw [hab]; exact run_ix4 _ _ _ _ _ _ _ wx hv6' Try.underlying23 (Try.sizeOf29 wx)
      have hT := cells4_of hr
      obtain ⟨-, vx0, vx1, vx2, vf0, vf1, vf2⟩ := H6.out.v
      have HZ : Hid (S7 w.heap.size (w.heap.size + 2) (q4 + 1 + 1) w a c L w2.heap.size y w4.heap.size u (((w6.setCell ⟨w4.heap.size, 0, none⟩ (.int .i64 u.k)).setCell ⟨w4.heap.size, 1, none⟩ (.int .i64 u.n)).setCell ⟨w4.heap.size, 2, none⟩ (.string u.s))) := H6.out.put u
      clear hab hr hbl H6
      go_wp2_with fail
      clear hix hT vx0 vx1 vx2 vf0 vf1 vf2
      generalize (((w6.setCell ⟨w4.heap.size, 0, none⟩ (.int .i64 u.k)).setCell ⟨w4.heap.size, 1, none⟩ (.int .i64 u.n)).setCell ⟨w4.heap.size, 2, none⟩ (.string u.s)) = w7 at *
      have hbx := HZ.out.e.all
      obtain ⟨-, v0, v1, v2, -, -, -⟩ := HZ.out.v
      obtain ⟨-, p0, p1, p2, pf0, pf1, pf2⟩ := HZ.out.r0
      obtain ⟨-, q0, q1, q2, qf0, qf1, qf2⟩ := HZ.out.r1
      have ho1 := HZ.out.o1
      go_region_with (fail)
      all_goals
        go_wp2_with fail
        exact bodyPost_ret (v := .tuple #[.slice a L.length c, .agg #[.int .i64 y.k, .int .i64 y.n, .string y.s], .agg #[.int .i64 u.k, .int .i64 u.n, .string u.s]]) (by simp [results, Try.results17, go_sem, p0, p1, p2, q0, q1, q2]) rfl ⟨_, _, L, y, u, rfl, HZ.out.done rfl (by omega) HL.out (Upd.set3 _ _ _ _) (Upd.set3d _ _ _ _), hy, hy5.out⟩
  · have hL0 : L = [] := List.length_eq_zero_iff.1 (by omega)
    subst hL0
    have HZ : Hid _ := H4.out
    clear H4
    have hbx := HZ.out.e.all
    obtain ⟨-, v0, v1, v2, -, -, -⟩ := HZ.out.v
    obtain ⟨-, p0, p1, p2, pf0, pf1, pf2⟩ := HZ.out.r0
    obtain ⟨-, q0, q1, q2, qf0, qf1, qf2⟩ := HZ.out.r1
    have ho1 := HZ.out.o1
    go_wp2_with fail
    go_region_with (fail)
    all_goals
      go_wp2_with fail
      exact bodyPost_ret (v := .tuple #[.slice a ([] : List AEnt).length c, .agg #[.int .i64 y.k, .int .i64 y.n, .string y.s], .agg #[.int .i64 k, .int .i64 n, .string s]]) (by simp [results, Try.results17, go_sem, p0, p1, p2, q0, q1, q2]) rfl ⟨_, _, [], y, ⟨k, n, s, 0⟩, rfl, HZ.out.done rfl (by omega) HL.out (Upd.set3 _ _ _ _) (Upd.set3d _ _ _ _), hy, hks⟩

end Go.Proofs.Ytgjhmpgofmmniaa
