/- The ids of a span of entries; the contract of spec.IndexSpan. Over the seat's translation. -/
import Derived.Test.YtobblnlefhkanaaG03
import Derived.Test.YtobblnlefhkanaaG08
import Derived.Test.YtobblnlefhkanaaG04
namespace Go.Proofs.Ytobblnlefhkanaa
open Go.RowKit

/-- An entry's value lies from lo's to hi's. -/
def inSpan (lo hi c : AEnt) : Bool := !lessV c.k c.n c.s lo.k lo.n lo.s && !lessV hi.k hi.n hi.s c.k c.n c.s
def spanIn (lo hi : AEnt) (L : List AEnt) : List Int := (L.filter (inSpan lo hi)).map AEnt.id
def spanL (lo hi : AEnt) (L : List AEnt) : List Int := if indexOk L then spanIn lo hi L else []

theorem spanIn_next {lo hi : AEnt} {L : List AEnt} {k : Nat} {c : AEnt} (hc : L[k]? = some c) : spanIn lo hi (L.take (k + 1)) = spanIn lo hi (L.take k) ++ (if inSpan lo hi c then [c.id] else []) := by
  obtain ⟨hk, rfl⟩ := List.getElem?_eq_some_iff.1 hc
  unfold spanIn
  rw [List.take_succ_eq_append_getElem hk, List.filter_append, List.map_append]
  congr 1
  cases h : inSpan lo hi L[k] <;> simp [h]
theorem spanIn_len (lo hi : AEnt) (L : List AEnt) : (spanIn lo hi L).length ≤ L.length := by
  unfold spanIn
  rw [List.length_map]
  exact List.length_filter_le _ _

/-- A row of ints of the call's own. -/
def OwnI (base : Nat) (v : Value) (L : List Int) (W : World) : Prop := W.ownsRow base 3 1 v L.length (L.map (Value.int .i64))
theorem OwnI.next {base : Nat} {v : Value} {L : List Int} {W W' : World} (h : OwnI base v L W) (hb : Below W.heap.size W W') : OwnI base v L W' := by
  refine ⟨h.1, ?_⟩
  rcases h.2 with h | ⟨g, cap, cur, hv, hg, hh, r⟩
  · exact Or.inl h
  · exact Or.inr ⟨g, cap, cur, hv, hg, by rw [hb.block g (Array.getElem?_eq_some_iff.1 hh).1]; exact hh, r⟩
theorem OwnI.mono {base base' : Nat} {v : Value} {L : List Int} {W : World} (h : OwnI base v L W) (hb : base' ≤ base) : OwnI base' v L W := by
  refine ⟨h.1, ?_⟩
  rcases h.2 with h | ⟨g, cap, cur, hv, hg, r⟩
  · exact Or.inl h
  · exact Or.inr ⟨g, cap, cur, hv, by omega, r⟩
/-- It is nothing, or a row. -/
theorem OwnI.form {base : Nat} {v : Value} {L : List Int} {W : World} (h : OwnI base v L W) : (v = .slice none 0 0 ∧ L = []) ∨
    ∃ b cap, v = .slice (some ⟨b, 0, none⟩) L.length cap ∧ base ≤ b ∧ b < W.heap.size ∧ L.length ≤ cap ∧ IntsAt W (some ⟨b, 0, none⟩) L ∧ W.there b 0 cap := by
  have hown : W.ownsRow base 3 1 v L.length (L.map (Value.int .i64)) := h
  obtain ⟨hl, h⟩ := h
  rcases h with ⟨rfl, h0⟩ | ⟨g, cap, cur, rfl, hg, hh, hn, hcm, hcs, ht⟩
  · exact Or.inl ⟨rfl, List.length_eq_zero_iff.1 h0⟩
  · have hlt : g < W.heap.size := (Array.getElem?_eq_some_iff.1 hh).1
    refine Or.inr ⟨g, cap, rfl, hg, hlt, hn, Or.inr ⟨g, 0, rfl, hlt, fun j u hu => ?_⟩, fun j hj => ⟨?_, World.ownsRow.frozenAt hown _⟩⟩
    · have := hown.cells (g := g) rfl j (.int .i64 u) (by simp [hu])
      rwa [Addr.add_mid] at this
    · rw [Nat.zero_add]
      simp only [World.cell?, hh]
      rw [Array.getElem?_eq_getElem (by omega)]
      rfl
theorem OwnI.slice {base : Nat} {v : Value} {L : List Int} {W : World} (h : OwnI base v L W) : ∃ a cap, v = .slice a L.length cap ∧ IntsAt W a L := by
  rcases h.form with ⟨rfl, rfl⟩ | ⟨b, cap, rfl, _, _, _, h, _⟩
  · exact ⟨none, 0, rfl, Or.inl rfl⟩
  · exact ⟨_, cap, rfl, h⟩
theorem OwnI.made (base : Nat) (W : World) (h : base ≤ W.heap.size) : OwnI base (.slice (some ⟨W.heap.size, 0, none⟩) 0 0) [] (W.alloc (.cells #[] 3)) :=
  World.ownsRow_made W #[] 0 h (Nat.zero_le _) rfl

theorem Try.infoI : ∃ i, Try.prog.info? 3 = some i ∧ i.zero = some (.int .i64 0) ∧ i.size = 1 ∧ i.bytes ≤ 128 := by
  have h : (Try.prog.info? 3).map (fun i => (i.zero, i.size, decide (i.bytes ≤ 128))) = some (some (.int .i64 0), 1, true) := by kernel_rfl
  obtain ⟨i, hi, he⟩ := Option.map_eq_some_iff.1 h
  simp only [Prod.mk.injEq, decide_eq_true_eq] at he
  exact ⟨i, hi, he.1, he.2.1, he.2.2⟩
theorem new_int (W : World) (z : Int) : ∀ j u, ([Value.int .i64 z] : List Value)[j]? = some u → (W.alloc (.cells #[.int .i64 z] 3)).cell? ((⟨W.heap.size, 0, none⟩ : Addr).add j) = some u := fun j u hu => by
  rw [Addr.add_mid]
  have := (Box.start W [.int .i64 z] 3).1 j u hu
  exact this

/-- What is carried through the loop. -/
structure SpS (w : World) (a : Option Addr) (L : List AEnt) (lo hi : AEnt) (v : Value) (M : List Int) (W : World) : Prop where
  far : FarE (w.heap.size + 2) a L W
  lo : W.rangeAt w.heap.size 0 [.int .i64 lo.k, .int .i64 lo.n, .string lo.s]
  hi : W.rangeAt (w.heap.size + 1) 0 [.int .i64 hi.k, .int .i64 hi.n, .string hi.s]
  own : OwnI (w.heap.size + 2) v M W
  le : w.heap.size + 2 ≤ W.heap.size
  bel : Below w.heap.size w W
theorem SpS.next {w : World} {a : Option Addr} {L : List AEnt} {lo hi : AEnt} {v : Value} {M : List Int} {W W' : World} (h : SpS w a L lo hi v M W) (hb : Below W.heap.size W W') : SpS w a L lo hi v M W' :=
  ⟨h.far.next (hb.mono h.le), range_next h.lo (by have := h.le; omega) hb, range_next h.hi (by have := h.le; omega) hb, h.own.next hb, Nat.le_trans h.le hb.size, h.bel.trans (hb.mono (by have := h.le; omega))⟩
theorem SpS.turn {w : World} {a : Option Addr} {L : List AEnt} {lo hi : AEnt} {v v' : Value} {M M' : List Int} {W W' : World} (h : SpS w a L lo hi v M W) (hb : Below (w.heap.size + 2) W W') (ho : OwnI (w.heap.size + 2) v' M' W') : SpS w a L lo hi v' M' W' :=
  ⟨h.far.next hb, fun j u hu => by rw [hb.cell (p := ⟨w.heap.size, _, none⟩) (by simp)]; exact h.lo j u hu, fun j u hu => by rw [hb.cell (p := ⟨w.heap.size + 1, _, none⟩) (by simp)]; exact h.hi j u hu, ho, Nat.le_trans h.le hb.size, h.bel.trans (hb.mono (by omega))⟩

/-- What a round of the loop reads. -/
abbrev SpR (w : World) (a : Option Addr) (L : List AEnt) (lo hi : AEnt) (v : Value) (M : List Int) (b q : Nat) (c : AEnt) (W : World) : Prop :=
  (SpS w a L lo hi v M W ∧ b < W.heap.size) ∧ Cells4 W b q c ∧ (W.cell? ⟨w.heap.size, 0, none⟩ = some (.int .i64 lo.k) ∧ W.cell? ⟨w.heap.size, 1, none⟩ = some (.int .i64 lo.n) ∧ W.cell? ⟨w.heap.size, 2, none⟩ = some (.string lo.s)) ∧ (W.cell? ⟨w.heap.size + 1, 0, none⟩ = some (.int .i64 hi.k) ∧ W.cell? ⟨w.heap.size + 1, 1, none⟩ = some (.int .i64 hi.n) ∧ W.cell? ⟨w.heap.size + 1, 2, none⟩ = some (.string hi.s))
theorem SpS.r {w : World} {a : Option Addr} {L : List AEnt} {lo hi : AEnt} {v : Value} {M : List Int} {b q : Nat} {c : AEnt} {W : World} (h : SpS w a L lo hi v M W) (hb : b < W.heap.size) (hc : Cells4 W b q c) : SpR w a L lo hi v M b q c W :=
  ⟨⟨h, hb⟩, hc, ⟨h.lo 0 _ rfl, h.lo 1 _ rfl, h.lo 2 _ rfl⟩, ⟨h.hi 0 _ rfl, h.hi 1 _ rfl, h.hi 2 _ rfl⟩⟩
theorem spr_next {w : World} {a : Option Addr} {L : List AEnt} {lo hi : AEnt} {v : Value} {M : List Int} {b q : Nat} {c : AEnt} {W W' : World} (h : SpR w a L lo hi v M b q c W) (hb : Below W.heap.size W W') : SpR w a L lo hi v M b q c W' :=
  (h.1.1.next hb).r (Nat.lt_of_lt_of_le h.1.2 hb.size) (cells4_next h.2.1 h.1.2 hb)
theorem spr_drew {w : World} {a : Option Addr} {L : List AEnt} {lo hi : AEnt} {v : Value} {M : List Int} {b q : Nat} {c : AEnt} {W : World} (h : SpR w a L lo hi v M b q c W) : SpR w a L lo hi v M b q c W.drew := spr_next h (Below.refl _ _).drew

/-- What has come when k entries are looked at. -/
def spanK (lo hi : AEnt) (L : List AEnt) (k : Nat) : List Int := if indexOk L then spanIn lo hi (L.take k) else []
theorem spanK_len (lo hi : AEnt) (L : List AEnt) (k : Nat) : (spanK lo hi L k).length ≤ L.length := by
  unfold spanK
  split
  · exact Nat.le_trans (spanIn_len _ _ _) (by simp; omega)
  · simp
theorem spanK_all (lo hi : AEnt) (L : List AEnt) : spanK lo hi L L.length = spanL lo hi L := by
  unfold spanK spanL
  rw [List.take_length]
theorem spanK_next {lo hi : AEnt} {L : List AEnt} {k : Nat} {c : AEnt} (hI : indexOk L = true) (hc : L[k]? = some c) : spanK lo hi L (k + 1) = spanK lo hi L k ++ (if inSpan lo hi c then [c.id] else []) := by
  unfold spanK
  rw [hI, if_pos rfl, if_pos rfl, spanIn_next hc]

set_option maxRecDepth 100000 in
set_option maxHeartbeats 4000000 in
theorem spec_span (a : Option Addr) (cap : Nat) (L : List AEnt) (lo hi : AEnt) (w : World) (hL : EntsAt w a L) (hf : ∀ c ∈ L, c.fit) (hm : L.length ≤ 1048576) :
    Calls Try.prog 25 #[.slice a L.length cap, .agg #[.int .i64 lo.k, .int .i64 lo.n, .string lo.s], .agg #[.int .i64 hi.k, .int .i64 hi.n, .string hi.s]] w
      fun e w' => ∃ v, e = .returned v ∧ OwnI w.heap.size v (spanL lo hi L) w' ∧ Below w.heap.size w w' := by
  have hm' : L.length ≤ maxLen := by unfold maxLen; omega
  have I0 : Hid (SpS w a L lo hi (.slice (some ⟨w.heap.size + 2, 0, none⟩) 0 0) [] (((w.alloc (.cells #[.int .i64 lo.k, .int .i64 lo.n, .string lo.s] 36)).alloc (.cells #[.int .i64 hi.k, .int .i64 hi.n, .string hi.s] 36)).alloc (.cells #[] 3))) := by
    have b1 : Below w.heap.size w (w.alloc (.cells #[.int .i64 lo.k, .int .i64 lo.n, .string lo.s] 36)) := (Below.refl _ _).alloc (Nat.le_refl _) _
    have b2 : Below (w.alloc (.cells #[.int .i64 lo.k, .int .i64 lo.n, .string lo.s] 36)).heap.size (w.alloc (.cells #[.int .i64 lo.k, .int .i64 lo.n, .string lo.s] 36)) ((w.alloc (.cells #[.int .i64 lo.k, .int .i64 lo.n, .string lo.s] 36)).alloc (.cells #[.int .i64 hi.k, .int .i64 hi.n, .string hi.s] 36)) := (Below.refl _ _).alloc (Nat.le_refl _) _
    have b3 : Below ((w.alloc (.cells #[.int .i64 lo.k, .int .i64 lo.n, .string lo.s] 36)).alloc (.cells #[.int .i64 hi.k, .int .i64 hi.n, .string hi.s] 36)).heap.size ((w.alloc (.cells #[.int .i64 lo.k, .int .i64 lo.n, .string lo.s] 36)).alloc (.cells #[.int .i64 hi.k, .int .i64 hi.n, .string hi.s] 36)) (((w.alloc (.cells #[.int .i64 lo.k, .int .i64 lo.n, .string lo.s] 36)).alloc (.cells #[.int .i64 hi.k, .int .i64 hi.n, .string hi.s] 36)).alloc (.cells #[] 3)) := (Below.refl _ _).alloc (Nat.le_refl _) _
    have x1 := ((Box.start w [.int .i64 lo.k, .int .i64 lo.n, .string lo.s] 36).next b2).next b3
    have x2 := (Box.start (w.alloc (.cells #[.int .i64 lo.k, .int .i64 lo.n, .string lo.s] 36)) [.int .i64 hi.k, .int .i64 hi.n, .string hi.s] 36).next b3
    have x3 := OwnI.made (w.heap.size + 2) ((w.alloc (.cells #[.int .i64 lo.k, .int .i64 lo.n, .string lo.s] 36)).alloc (.cells #[.int .i64 hi.k, .int .i64 hi.n, .string hi.s] 36)) (by simp)
    rw [size_alloc, size_alloc] at x3
    rw [size_alloc] at x2
    have hb : Below w.heap.size w (((w.alloc (.cells #[.int .i64 lo.k, .int .i64 lo.n, .string lo.s] 36)).alloc (.cells #[.int .i64 hi.k, .int .i64 hi.n, .string hi.s] 36)).alloc (.cells #[] 3)) := (b1.trans (b2.mono (by simp))).trans (b3.mono (by simp; omega))
    exact ⟨((FarE.of hL).next hb).mono (by omega), x1.1, x2.1, x3, by simp, hb⟩
  clear hL
  go_enter Try.func25, Try.ntmps25
  go_wp2_with fail
  go_loopw [7, 8] (fun v i wr => ∃ (k : Nat) (ao : Option Addr) (no co : Nat), k ≤ L.length ∧ v = .slice ao no co ∧ i = .int .i64 k ∧ Hid (SpS w a L lo hi (.slice ao no co) (spanK lo hi L k) wr)) (fun _ i _ => L.length - (intOf i).toNat)
  case atStart => exact ⟨0, _, _, _, Nat.zero_le _, rfl, rfl, by
    have : spanK lo hi L 0 = [] := by unfold spanK spanIn; split <;> simp
    rw [this]
    exact I0.out⟩
  case round =>
    obtain ⟨k, ao, no, co, hk, rfl, rfl, hH⟩ := hrel
    clear I0
    by_cases hlt : k < L.length
    · have hE := hH.out.far.ents hH.out.le
      go_wp2_with fail
      refine (spec_index a cap L _ hE hf hm').mono ?_
      rintro e w1 ⟨rfl, hb⟩
      have h1 : Hid (SpS w a L lo hi (.slice ao no co) (spanK lo hi L k) w1) := hH.out.next hb
      clear hE hb hH
      cases hI : indexOk L
      · go_wp2_with fail
        go_ret
        exact ⟨_, rfl, (by
          have h := h1.out.own.mono (Nat.le_add_right w.heap.size 2)
          unfold spanK at h
          unfold spanL
          rw [hI] at h ⊢
          exact h), h1.out.bel⟩
      · obtain ⟨b, o, hab, hbl, hr⟩ := (h1.out.far.ents h1.out.le).at hlt
        have hcx := List.getElem?_eq_getElem hlt
        revert hr hcx
        generalize L[k] = c
        intro hr hcx
        have hix : ∀ wx, (Instr.indexAt 25 (.slice a L.length cap) (.int .i64 k)).run Try.prog wx = .ok (.pointer (some ⟨b, o + k * 4, none⟩)) wx := fun wx => by
          rw [hab]; exact run_ix4 _ _ _ _ _ _ _ wx hlt Try.underlying25 (Try.sizeOf38 wx)
        have hT : SpR w a L lo hi (.slice ao no co) (spanK lo hi L k) b (o + k * 4) c w1 := h1.out.r hbl (cells4_of hr)
        have hC : Hid (L[k]? = some c ∧ indexOk L = true) := ⟨hcx, hI⟩
        have inh : Nonempty (Over (SpR w a L lo hi (.slice ao no co) (spanK lo hi L k) b (o + k * 4) c)) := ⟨⟨w1, hT⟩⟩
        have f0 : ∀ p : Over (SpR w a L lo hi (.slice ao no co) (spanK lo hi L k) b (o + k * 4) c), Cells4 p.W b (o + k * 4) c := fun p => p.ok.2.1
        have f1 : ∀ p : Over (SpR w a L lo hi (.slice ao no co) (spanK lo hi L k) b (o + k * 4) c), p.W.cell? ⟨w.heap.size, 0, none⟩ = some (.int .i64 lo.k) ∧ p.W.cell? ⟨w.heap.size, 1, none⟩ = some (.int .i64 lo.n) ∧ p.W.cell? ⟨w.heap.size, 2, none⟩ = some (.string lo.s) := fun p => p.ok.2.2.1
        have f2 : ∀ p : Over (SpR w a L lo hi (.slice ao no co) (spanK lo hi L k) b (o + k * 4) c), p.W.cell? ⟨w.heap.size + 1, 0, none⟩ = some (.int .i64 hi.k) ∧ p.W.cell? ⟨w.heap.size + 1, 1, none⟩ = some (.int .i64 hi.n) ∧ p.W.cell? ⟨w.heap.size + 1, 2, none⟩ = some (.string hi.s) := fun p => p.ok.2.2.2
        have hcA : ∀ W, Calls Try.prog 43 #[.agg #[.int .i64 c.k, .int .i64 c.n, .string c.s], .agg #[.int .i64 lo.k, .int .i64 lo.n, .string lo.s]] W fun e w' => e = .returned (.bool (lessV c.k c.n c.s lo.k lo.n lo.s)) ∧ Below W.heap.size W w' := fun W => spec_less _ _ _ _ _ _ W
        have hcB : ∀ W, Calls Try.prog 43 #[.agg #[.int .i64 hi.k, .int .i64 hi.n, .string hi.s], .agg #[.int .i64 c.k, .int .i64 c.n, .string c.s]] W fun e w' => e = .returned (.bool (lessV hi.k hi.n hi.s c.k c.n c.s)) ∧ Below W.heap.size W w' := fun W => spec_less _ _ _ _ _ _ W
        clear hab hr hcx hbl hI h1
        cases hA : lessV c.k c.n c.s lo.k lo.n lo.s
        rotate_left
        · have hN : Hid (inSpan lo hi c = false) := by show inSpan lo hi c = false; unfold inSpan; rw [hA]; rfl
          rw [hA] at hcA
          go_wp2_with fail
          refine wp_region_over (S := SpR w a L lo hi (.slice ao no co) (spanK lo hi L k) b (o + k * 4) c) (by kernel_rfl) (by kernel_rfl) (spr_drew hT) ?_
          repeat (go_big_quiet_step (first | with_reducible exact over_call (hcA _) (fun _ h => spr_next (Over.ok _) h) | with_reducible exact over_call (hcB _) (fun _ h => spr_next (Over.ok _) h)))
          refine wpQuiet_nil ?_
          rintro wq ⟨p, hp⟩
          have hq := p.ok
          rw [← hp] at hq
          clear hp p f0 f1 f2 inh
          go_wp2_with fail
          go_roundw
          case rel => exact ⟨k + 1, _, _, _, by omega, rfl, by go_num, by
            rw [spanK_next hC.out.2 hC.out.1, hN.out, if_neg (by decide), List.append_nil]
            exact hq.1.1⟩
          case measure => simp [intOf]; omega
        rw [hA] at hcA
        cases hB : lessV hi.k hi.n hi.s c.k c.n c.s
        rotate_left
        · have hN : Hid (inSpan lo hi c = false) := by show inSpan lo hi c = false; unfold inSpan; rw [hA, hB]; rfl
          rw [hB] at hcB
          go_wp2_with fail
          refine wp_region_over (S := SpR w a L lo hi (.slice ao no co) (spanK lo hi L k) b (o + k * 4) c) (by kernel_rfl) (by kernel_rfl) (spr_drew hT) ?_
          repeat (go_big_quiet_step (first | with_reducible exact over_call (hcA _) (fun _ h => spr_next (Over.ok _) h) | with_reducible exact over_call (hcB _) (fun _ h => spr_next (Over.ok _) h)))
          refine wpQuiet_nil ?_
          rintro wq ⟨p, hp⟩
          have hq := p.ok
          rw [← hp] at hq
          clear hp p f0 f1 f2 inh
          go_wp2_with fail
          go_roundw
          case rel => exact ⟨k + 1, _, _, _, by omega, rfl, by go_num, by
            rw [spanK_next hC.out.2 hC.out.1, hN.out, if_neg (by decide), List.append_nil]
            exact hq.1.1⟩
          case measure => simp [intOf]; omega
        have hN : Hid (inSpan lo hi c = true) := by show inSpan lo hi c = true; unfold inSpan; rw [hA, hB]; rfl
        rw [hB] at hcB
        go_wp2_with fail
        refine wp_region_over (S := SpR w a L lo hi (.slice ao no co) (spanK lo hi L k) b (o + k * 4) c) (by kernel_rfl) (by kernel_rfl) (spr_drew hT) ?_
        repeat (go_big_quiet_step (first | with_reducible exact over_call (hcA _) (fun _ h => spr_next (Over.ok _) h) | with_reducible exact over_call (hcB _) (fun _ h => spr_next (Over.ok _) h)))
        refine wpQuiet_nil ?_
        rintro wq ⟨p, hp⟩
        have hq := p.ok
        rw [← hp] at hq
        clear hp p f0 f1 f2 inh
        obtain ⟨i0, hi0, hz, hsz, hby⟩ := Try.infoI
        have hql := spanK_len lo hi L k
        have hby6 : ((spanK lo hi L k).length + 1) * i0.bytes ≤ 140737488355328 := by
          have : ((spanK lo hi L k).length + 1) * i0.bytes ≤ 2097152 * 128 := Nat.mul_le_mul (by omega) hby
          omega
        have hown0 : wq.ownsRow (w.heap.size + 2) 3 1 (.slice ao no co) (spanK lo hi L k).length ((spanK lo hi L k).map (Value.int .i64)) := hq.1.1.own
        have hown : (wq.alloc (.cells #[.int .i64 c.id] 3)).ownsRow (w.heap.size + 2) 3 1 (.slice ao no co) (spanK lo hi L k).length ((spanK lo hi L k).map (Value.int .i64)) := hown0.alloc _
        have hnews := new_int wq c.id
        have hle := hq.1.1.le
        have c4 := hq.2.1
        go_wp2_with (at_builtin; refine wpList_append_own_at _ rfl _ _ 43 rfl (w.heap.size + 2) 3 i0 _ 1 i0.bytes Try.underlying43 hi0 hz hsz rfl rfl (by decide) _ (spanK lo hi L k).length ((spanK lo hi L k).map (Value.int .i64)) rfl hown ⟨wq.heap.size, 0, none⟩ 1 1 [.int .i64 c.id] rfl rfl hnews (by simp [Value.oneCell']) (by unfold maxLen; omega) hby6 (by simp; omega) ?_; intro v' w7 hown7 hgrow hnil hloc)
        have hb7 : Below (w.heap.size + 2) wq w7 := ((Below.refl _ _).alloc hle _).grown hgrow (by simp; omega) (fun j hj => (World.ownsRow.lt hown j hj).1)
        have h7 : OwnI (w.heap.size + 2) v' (spanK lo hi L (k + 1)) w7 := by
          rw [spanK_next hC.out.2 hC.out.1, hN.out, if_pos rfl]
          unfold OwnI
          rw [List.length_append, List.map_append]
          exact hown7
        obtain ⟨a7, c7, hV, -⟩ := h7.slice
        subst hV
        have HF : Hid (SpS w a L lo hi (.slice a7 (spanK lo hi L (k + 1)).length c7) (spanK lo hi L (k + 1)) w7) := hq.1.1.turn hb7 h7
        clear hb7 h7 hown7 hgrow hnil hloc hown hown0 hnews hz hsz hby hby6 hq c4 hi0
        go_wp2_with fail
        go_roundw
        case rel => exact ⟨k + 1, _, _, _, by omega, rfl, by go_num, HF⟩
        case measure => simp [intOf]; omega
    · have hkl : k = L.length := by omega
      subst hkl
      go_wp2_with fail
      go_ret
      exact ⟨_, rfl, by rw [← spanK_all]; exact hH.out.own.mono (Nat.le_add_right w.heap.size 2), hH.out.bel⟩

end Go.Proofs.Ytobblnlefhkanaa

/- What is carried through the law of IndexSpan, over the seat's translation. -/
namespace Go.Proofs.Ytobblnlefhkanaa
open Go.RowKit

/-- What came in: entries, and two values in their boxes; all lies ahead of block p. -/
structure InV (w : World) (p : Nat) (a : Option Addr) (L : List AEnt) (lo hi : AEnt) (W : World) : Prop where
  inp : FarE p a L W
  lo : W.rangeAt w.heap.size 0 [.int .i64 lo.k, .int .i64 lo.n, .string lo.s]
  hi : W.rangeAt (w.heap.size + 1) 0 [.int .i64 hi.k, .int .i64 hi.n, .string hi.s]
  lt : w.heap.size + 1 < p
  le : p ≤ W.heap.size
  bel : Below w.heap.size w W
theorem InV.next {w : World} {p : Nat} {a : Option Addr} {L : List AEnt} {lo hi : AEnt} {W W' : World} (h : InV w p a L lo hi W) (hb : Below p W W') : InV w p a L lo hi W' :=
  ⟨h.inp.next hb, fun j v hv => by rw [hb.cell (p := ⟨w.heap.size, _, none⟩) (by have := h.lt; simp; omega)]; exact h.lo j v hv, fun j v hv => by rw [hb.cell (p := ⟨w.heap.size + 1, _, none⟩) h.lt]; exact h.hi j v hv, h.lt, Nat.le_trans h.le hb.size, h.bel.trans (hb.mono (by have := h.lt; omega))⟩
theorem InV.later {w : World} {p : Nat} {a : Option Addr} {L : List AEnt} {lo hi : AEnt} {W W' : World} (h : InV w p a L lo hi W) (hb : Below W.heap.size W W') : InV w p a L lo hi W' := h.next (hb.mono h.le)
theorem InV.up {w : World} {p : Nat} {a : Option Addr} {L : List AEnt} {lo hi : AEnt} {W : World} (h : InV w p a L lo hi W) : InV w W.heap.size a L lo hi W := ⟨h.inp.mono h.le, h.lo, h.hi, Nat.lt_of_lt_of_le h.lt h.le, Nat.le_refl _, h.bel⟩
theorem InV.ents {w : World} {p : Nat} {a : Option Addr} {L : List AEnt} {lo hi : AEnt} {W : World} (h : InV w p a L lo hi W) : EntsAt W a L := h.inp.ents h.le
theorem InV.start {w : World} {a : Option Addr} {L : List AEnt} (lo hi : AEnt) (h : EntsAt w a L) (t : TypeId) : InV w (w.heap.size + 2) a L lo hi ((w.alloc (.cells #[.int .i64 lo.k, .int .i64 lo.n, .string lo.s] t)).alloc (.cells #[.int .i64 hi.k, .int .i64 hi.n, .string hi.s] t)) := by
  have b1 : Below w.heap.size w (w.alloc (.cells #[.int .i64 lo.k, .int .i64 lo.n, .string lo.s] t)) := (Below.refl _ _).alloc (Nat.le_refl _) _
  have b2 : Below (w.alloc (.cells #[.int .i64 lo.k, .int .i64 lo.n, .string lo.s] t)).heap.size (w.alloc (.cells #[.int .i64 lo.k, .int .i64 lo.n, .string lo.s] t)) ((w.alloc (.cells #[.int .i64 lo.k, .int .i64 lo.n, .string lo.s] t)).alloc (.cells #[.int .i64 hi.k, .int .i64 hi.n, .string hi.s] t)) := (Below.refl _ _).alloc (Nat.le_refl _) _
  have y1 := (Box.start w [.int .i64 lo.k, .int .i64 lo.n, .string lo.s] t).next b2
  have y2 := Box.start (w.alloc (.cells #[.int .i64 lo.k, .int .i64 lo.n, .string lo.s] t)) [.int .i64 hi.k, .int .i64 hi.n, .string hi.s] t
  rw [size_alloc] at y2
  have hb := b1.trans (b2.mono (by simp))
  exact ⟨((FarE.of h).next hb).mono (by omega), y1.1, y2.1, by omega, by simp, hb⟩
/-- The boxes' cells. -/
abbrev CelV (w : World) (lo hi : AEnt) (W : World) : Prop :=
  (W.cell? ⟨w.heap.size, 0, none⟩ = some (.int .i64 lo.k) ∧ W.cell? ⟨w.heap.size, 1, none⟩ = some (.int .i64 lo.n) ∧ W.cell? ⟨w.heap.size, 2, none⟩ = some (.string lo.s)) ∧ W.cell? ⟨w.heap.size + 1, 0, none⟩ = some (.int .i64 hi.k) ∧ W.cell? ⟨w.heap.size + 1, 1, none⟩ = some (.int .i64 hi.n) ∧ W.cell? ⟨w.heap.size + 1, 2, none⟩ = some (.string hi.s)
theorem InV.cells {w : World} {p : Nat} {a : Option Addr} {L : List AEnt} {lo hi : AEnt} {W : World} (h : InV w p a L lo hi W) : CelV w lo hi W := ⟨⟨h.lo 0 _ rfl, h.lo 1 _ rfl, h.lo 2 _ rfl⟩, h.hi 0 _ rfl, h.hi 1 _ rfl, h.hi 2 _ rfl⟩
abbrev InVC (w : World) (p : Nat) (a : Option Addr) (L : List AEnt) (lo hi : AEnt) (W : World) : Prop := InV w p a L lo hi W ∧ CelV w lo hi W
theorem InV.c {w : World} {p : Nat} {a : Option Addr} {L : List AEnt} {lo hi : AEnt} {W : World} (h : InV w p a L lo hi W) : InVC w p a L lo hi W := ⟨h, h.cells⟩
theorem inv_later {w : World} {p : Nat} {a : Option Addr} {L : List AEnt} {lo hi : AEnt} {W W' : World} (h : InVC w p a L lo hi W) (hb : Below W.heap.size W W') : InVC w p a L lo hi W' := (h.1.later hb).c
theorem inv_drew {w : World} {p : Nat} {a : Option Addr} {L : List AEnt} {lo hi : AEnt} {W : World} (h : InVC w p a L lo hi W) : InVC w p a L lo hi W.drew := inv_later h (Below.refl _ _).drew

/-- The ints N lie in W ahead of block p. -/
def FarI (p : Nat) (a : Option Addr) (N : List Int) (W : World) : Prop :=
  N = [] ∨ ∃ b o, a = some ⟨b, o, none⟩ ∧ b < p ∧ ∀ i c, N[i]? = some c → W.cell? ⟨b, o + i, none⟩ = some (.int .i64 c)
theorem FarI.next {p : Nat} {a : Option Addr} {N : List Int} {W W' : World} (h : FarI p a N W) (hb : Below p W W') : FarI p a N W' := by
  rcases h with h | ⟨b, o, e, hlt, hr⟩
  · exact Or.inl h
  · exact Or.inr ⟨b, o, e, hlt, fun i c hc => by rw [hb.cell (p := ⟨b, _, none⟩) hlt]; exact hr i c hc⟩
theorem FarI.ints {p : Nat} {a : Option Addr} {N : List Int} {W : World} (h : FarI p a N W) (hp : p ≤ W.heap.size) : IntsAt W a N := by
  rcases h with h | ⟨b, o, e, hlt, hr⟩
  · exact Or.inl h
  · exact Or.inr ⟨b, o, e, Nat.lt_of_lt_of_le hlt hp, hr⟩
theorem FarI.of {a : Option Addr} {N : List Int} {W : World} (h : IntsAt W a N) : FarI W.heap.size a N W := h

/-- Besides, what the specification answers. -/
structure SpV (w : World) (p : Nat) (a : Option Addr) (L : List AEnt) (lo hi : AEnt) (aw : Option Addr) (N : List Int) (W : World) : Prop where
  inv : InV w p a L lo hi W
  sp : FarI p aw N W
theorem SpV.next {w : World} {p : Nat} {a : Option Addr} {L : List AEnt} {lo hi : AEnt} {aw : Option Addr} {N : List Int} {W W' : World} (h : SpV w p a L lo hi aw N W) (hb : Below p W W') : SpV w p a L lo hi aw N W' := ⟨h.inv.next hb, h.sp.next hb⟩
theorem SpV.later {w : World} {p : Nat} {a : Option Addr} {L : List AEnt} {lo hi : AEnt} {aw : Option Addr} {N : List Int} {W W' : World} (h : SpV w p a L lo hi aw N W) (hb : Below W.heap.size W W') : SpV w p a L lo hi aw N W' := h.next (hb.mono h.inv.le)
theorem SpV.ints {w : World} {p : Nat} {a : Option Addr} {L : List AEnt} {lo hi : AEnt} {aw : Option Addr} {N : List Int} {W : World} (h : SpV w p a L lo hi aw N W) : IntsAt W aw N := h.sp.ints h.inv.le

/-- Besides, the entries made anew at block p. -/
abbrev XV (w : World) (p : Nat) (a : Option Addr) (L : List AEnt) (lo hi : AEnt) (aw : Option Addr) (N : List Int) (W : World) : Prop :=
  (SpV w p a L lo hi aw N W ∧ p < W.heap.size ∧ EntsAt W (some ⟨p, 0, none⟩) L ∧ W.there p 0 (L.length * 4)) ∧ CelV w lo hi W
theorem xv_later {w : World} {p : Nat} {a : Option Addr} {L : List AEnt} {lo hi : AEnt} {aw : Option Addr} {N : List Int} {W W' : World} (h : XV w p a L lo hi aw N W) (hb : Below W.heap.size W W') : XV w p a L lo hi aw N W' := by
  obtain ⟨⟨h1, h2, h3, h4⟩, _⟩ := h
  have h1' := h1.later hb
  exact ⟨⟨h1', Nat.lt_of_lt_of_le h2 hb.size, h3.keep hb, there_next h4 h2 hb⟩, h1'.inv.cells⟩
theorem xv_drew {w : World} {p : Nat} {a : Option Addr} {L : List AEnt} {lo hi : AEnt} {aw : Option Addr} {N : List Int} {W : World} (h : XV w p a L lo hi aw N W) : XV w p a L lo hi aw N W.drew := xv_later h (Below.refl _ _).drew

/-- Block g bears the marks of n ints from 1 on. -/
def MkI (g n : Nat) (W : World) : Prop := g < W.heap.size ∧ ∀ j, j < n → W.cell? ⟨g, j, none⟩ = some (.int .i64 ((1 + j : Nat) : Int))
theorem MkI.next {g n : Nat} {W W' : World} (h : MkI g n W) (hb : Below W.heap.size W W') : MkI g n W' := ⟨Nat.lt_of_lt_of_le h.1 hb.size, fun j hj => by rw [(bcell hb).1 _ _ h.1]; exact h.2 j hj⟩
/-- What the specification answers, and marks. -/
abbrev YV (w : World) (p : Nat) (a : Option Addr) (L : List AEnt) (lo hi : AEnt) (aw : Option Addr) (N : List Int) (g n : Nat) (W : World) : Prop :=
  (SpV w p a L lo hi aw N W ∧ MkI g n W) ∧ CelV w lo hi W
theorem yv_later {w : World} {p : Nat} {a : Option Addr} {L : List AEnt} {lo hi : AEnt} {aw : Option Addr} {N : List Int} {g n : Nat} {W W' : World} (h : YV w p a L lo hi aw N g n W) (hb : Below W.heap.size W W') : YV w p a L lo hi aw N g n W' := by
  obtain ⟨⟨h1, h2⟩, _⟩ := h
  have h1' := h1.later hb
  exact ⟨⟨h1', h2.next hb⟩, h1'.inv.cells⟩
theorem yv_drew {w : World} {p : Nat} {a : Option Addr} {L : List AEnt} {lo hi : AEnt} {aw : Option Addr} {N : List Int} {g n : Nat} {W : World} (h : YV w p a L lo hi aw N g n W) : YV w p a L lo hi aw N g n W.drew := yv_later h (Below.refl _ _).drew

theorem OwnI.same {base : Nat} {a : Option Addr} {n c : Nat} {N : List Int} {W : World} (h : OwnI base (.slice a n c) N W) : IntsAt W a N := by
  obtain ⟨a', c', e, h2⟩ := h.slice
  cases e
  exact h2
/-- A row's block, or any block where there is no int. -/
theorem OwnI.block {base : Nat} {a : Option Addr} {n c : Nat} {N : List Int} {W : World} (h : OwnI base (.slice a n c) N W) (hb : base < W.heap.size) (hn : n = N.length) : ∃ g, (a = some ⟨g, 0, none⟩ ∨ n = 0) ∧ base ≤ g ∧ g < W.heap.size ∧ W.there g 0 n := by
  rcases h.form with ⟨hv, hL⟩ | ⟨b, cap, hv, h1, h2, h3, _, h5⟩
  · subst hL
    subst hn
    exact ⟨base, Or.inr rfl, Nat.le_refl _, hb, fun j hj => by simp at hj⟩
  · obtain ⟨e1, -, -⟩ := Value.slice.inj hv
    subst e1
    subst hn
    exact ⟨b, Or.inl rfl, h1, h2, fun j hj => h5 j (Nat.lt_of_lt_of_le hj h3)⟩
theorem OwnI.turn {base B : Nat} {v : Value} {N : List Int} {W W' : World} (h : OwnI base v N W) (ht : Turn B W W') (hB : B < base) : OwnI base v N W' := by
  refine ⟨h.1, ?_⟩
  rcases h.2 with h | ⟨g, cap, cur, hv, hg, hh, r⟩
  · exact Or.inl h
  · exact Or.inr ⟨g, cap, cur, hv, hg, by rw [ht.block g (Array.getElem?_eq_some_iff.1 hh).1 (by omega)]; exact hh, r⟩

end Go.Proofs.Ytobblnlefhkanaa
