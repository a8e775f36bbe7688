/- The contract of spec.l8Put, over the seat's translation. -/
import Derived.Test.YtobblnlefhkanaaG13
import Derived.Test.YtobblnlefhkanaaG08
import Derived.Deep.RegionHeldLaw
namespace Go.Proofs.Ytobblnlefhkanaa
open Go.RowKit

theorem tw_len {p : AEnt → Bool} (M : List AEnt) : ∀ k, k ≤ M.length → (∀ t c, t < k → M[t]? = some c → p c = true) → (∀ c, M[k]? = some c → p c = false) → (M.takeWhile p).length = k := by
  induction M with
  | nil => intro k hk _ _; simp at hk; simp [hk]
  | cons d M ih =>
    intro k hk h1 h2
    cases k with
    | zero =>
      have := h2 d rfl
      simp [this]
    | succ k =>
      have hd := h1 0 d (by omega) rfl
      simp only [List.takeWhile_cons, hd, if_true, List.length_cons]
      rw [ih k (by simpa using hk) (fun t c ht hc => h1 (t + 1) c (by omega) (by simpa using hc)) (fun c hc => h2 c (by simpa using hc))]

/-- The same as SpE, the box's cells besides. -/
abbrev SC (w : World) (p : Nat) (a : Option Addr) (L : List AEnt) (x : AEnt) (aw : Option Addr) (N : List AEnt) (W : World) : Prop :=
  SpE w p a L x aw N W ∧ W.cell? ⟨w.heap.size, 0, none⟩ = some (.int .i64 x.k) ∧ W.cell? ⟨w.heap.size, 1, none⟩ = some (.int .i64 x.n) ∧ W.cell? ⟨w.heap.size, 2, none⟩ = some (.string x.s) ∧ W.cell? ⟨w.heap.size, 3, none⟩ = some (.int .i64 x.id)
theorem SpE.c {w : World} {p : Nat} {a : Option Addr} {L : List AEnt} {x : AEnt} {aw : Option Addr} {N : List AEnt} {W : World} (h : SpE w p a L x aw N W) : SC w p a L x aw N W := ⟨h, h.ine.cells⟩
theorem sc_next {w : World} {p : Nat} {a : Option Addr} {L : List AEnt} {x : AEnt} {aw : Option Addr} {N : List AEnt} {W W' : World} (h : SC w p a L x aw N W) (hb : Below p W W') : SC w p a L x aw N W' := (h.1.next hb).c
theorem sc_alloc {w : World} {p : Nat} {a : Option Addr} {L : List AEnt} {x : AEnt} {aw : Option Addr} {N : List AEnt} {W : World} (h : SC w p a L x aw N W) (o : Obj) : SC w p a L x aw N (W.alloc o) := sc_next h ((Below.refl _ _).alloc h.1.ine.le _)
theorem sc_drew {w : World} {p : Nat} {a : Option Addr} {L : List AEnt} {x : AEnt} {aw : Option Addr} {N : List AEnt} {W : World} (h : SC w p a L x aw N W) : SC w p a L x aw N W.drew := sc_next h (Below.refl _ _).drew

/-- append_rows as a step of a region that draws its order. -/
theorem step_rows {ops : Array Oper} {o : Oper} {act : Act} {w : World} {K : Act → World → Prop} {Q : Exit → Act → World → Prop} {E : Prop} (d : Option Tmp) (hd : o.dst = d) (hgd : o.guard = none) (s x : Operand)
    (ho : o.op = .call { callee := .builtin .append, args := #[s, x], argTypes := #[25, 25] })
    (base : Nat) (v : Value) (M : List AEnt) (hs : act.eval s = v) (hown : OwnE base v M w) (ad : Option Addr) (m c : Nat) (N : List AEnt) (hx : act.eval x = .slice ad m c) (hmN : m = N.length)
    (hN : EntsAt w ad N) (h0 : ad = none → c = 0) (hl : M.length + N.length ≤ 2097152) (hbase : base ≤ w.heap.size)
    (h : ∀ a' n' c' w', OwnE base (.slice a' n' c') (M ++ N) w' → w.grownBy w' v.ownBlock → Below base w w' → (n' = M.length + N.length) → (M.length + N.length ≤ c' ∨ a' = none) → K (act.put d (.slice a' n' c')) w') :
    if Region.wanted o (yielded ops act.tmps) = true then Oper.wp Try.prog o act w K Q else E := by
  subst hd
  have hw : Region.wanted o (yielded ops act.tmps) = true := by simp [Region.wanted, hgd]
  rw [if_pos hw]
  obtain ⟨i0, hi, hz, hsz, hby⟩ := Try.info38
  subst hmN
  have hown0 : w.ownsRow base 38 4 v M.length (flat M) := hown
  cases ad with
  | none =>
    have hN0 : N = [] := by
      rcases hN with h | ⟨b, o, e, _⟩
      · exact h
      · cases e
    subst hN0
    have h0' := h0 rfl
    subst h0'
    have hr := run_append_owned_none (P := Try.prog) (w := w) base 25 o.type 38 i0 4 Try.underlying25 hi v M.length (flat M) hown0
    have hgo : K (act.put o.dst v) w → Oper.wp Try.prog o act w K Q := fun hK => by
      unfold Oper.wp
      simp [execOp, ho, resolve, invoke, builtin, hs, hx, hr, Result.andThen]
      exact hK
    refine hgo ?_
    clear hr hgo
    rcases hown.form with ⟨hv, hM⟩ | ⟨b, cap, hv, _, _, hc, _⟩
    · subst hv
      exact h _ _ _ w (by rw [List.append_nil]; exact hown) (World.grownBy.refl _ _) (Below.refl _ _) (by simp [hM]) (Or.inr rfl)
    · subst hv
      exact h _ _ _ w (by rw [List.append_nil]; exact hown) (World.grownBy.refl _ _) (Below.refl _ _) (by simp) (Or.inl (by simpa using hc))
  | some A =>
    have hby0 : (M.length + N.length) * i0.bytes ≤ 140737488355328 := by
      have : (M.length + N.length) * i0.bytes ≤ 2097152 * 128 := Nat.mul_le_mul hl hby
      omega
    have hnews : ∀ j u, (flat N)[j]? = some u → w.cell? (A.add j) = some u := by
      by_cases he : N = []
      · subst he
        intro j u hu
        simp [flat] at hu
      · have hN' := hN
        rcases hN with h | ⟨b, o, e, _⟩
        · exact absurd h he
        · cases e
          exact flat_cells hN'
    obtain ⟨v', w', hr, h1, hg, hn, -⟩ := run_append_own_at (P := Try.prog) w base 25 o.type 38 i0 _ 4 i0.bytes Try.underlying25 hi hz hsz rfl rfl (by decide) v M.length (flat M) hown0 A N.length c (flat N) (flat_len N) hnews (flat_one N) (by unfold maxLen; omega) hby0 hbase
    have hgo : K (act.put o.dst v') w' → Oper.wp Try.prog o act w K Q := fun hK => by
      unfold Oper.wp
      simp [execOp, ho, resolve, invoke, builtin, hs, hx, hr, Result.andThen]
      exact hK
    refine hgo ?_
    clear hr hgo
    have h2 : OwnE base v' (M ++ N) w' := by
      unfold OwnE
      rw [flat_append, List.length_append]
      exact h1
    have hb : Below base w w' := (Below.refl _ _).grown hg hbase (fun k hk => (World.ownsRow.lt hown0 k hk).1)
    rcases h2.form with ⟨hv, hM⟩ | ⟨b, cap, hv, _, _, hc, _⟩
    · subst hv
      exact h _ _ _ w' h2 hg hb (by rw [← List.length_append, hM]; rfl) (Or.inr rfl)
    · subst hv
      exact h _ _ _ w' h2 hg hb (by simp) (Or.inl (by simpa using hc))

theorem OneE.kept {vb : Nat} {x : AEnt} {W W' : World} {row : Option Nat} (h : OneE vb x W) (hg : W.grownBy W' row) (hne : some vb ≠ row) : OneE vb x W' := (hg.block vb h.lt hne).trans h
theorem OneE.alloc {vb : Nat} {x : AEnt} {W : World} (h : OneE vb x W) (o : Obj) : OneE vb x (W.alloc o) := h.kept (World.grownBy_alloc W o none) (by simp)
theorem OneE.drew {vb : Nat} {x : AEnt} {W : World} (h : OneE vb x W) : OneE vb x W.drew := h
theorem OwnE.drew {base : Nat} {v : Value} {L : List AEnt} {W : World} (h : OwnE base v L W) : OwnE base v L W.drew := h
theorem OwnE.alloc {base : Nat} {v : Value} {L : List AEnt} {W : World} (h : OwnE base v L W) (o : Obj) : OwnE base v L (W.alloc o) := h.next ((Below.refl _ _).alloc (Nat.le_refl _) _)
theorem made_block (g : Nat) : (Value.slice (some ⟨g, 0, none⟩) 0 0).ownBlock = some g := rfl
theorem ents_take1 {W : World} {a : Option Addr} {L : List AEnt} (h : EntsAt W a L) (k : Nat) : EntsAt W a (L.take k) := by
  rcases h with h | ⟨b', o', e, hlt, hr⟩
  · subst h; exact Or.inl (by simp)
  · subst e
    exact ents_take (Or.inr ⟨b', o', rfl, hlt, hr⟩) k
theorem ents_drop1 {W : World} {a : Option Addr} {L : List AEnt} (h : EntsAt W a L) (k : Nat) : EntsAt W (Option.map (fun x => x.add (k * 4)) a) (L.drop k) := by
  rcases h with h | ⟨b', o', e, hlt, hr⟩
  · subst h; exact Or.inl (by simp)
  · subst e
    have := ents_drop (Or.inr ⟨b', o', rfl, hlt, hr⟩ : EntsAt W (some ⟨b', o', none⟩) L) k
    simpa [Addr.add_mid] using this

/-- In the loop: what came in, an entry's cells, the box's cells. -/
abbrev LpE (w : World) (a : Option Addr) (L : List AEnt) (x : AEnt) (b q : Nat) (c : AEnt) (W : World) : Prop :=
  (InE w (w.heap.size + 1) a L x W ∧ b < W.heap.size) ∧ Cells4 W b q c ∧ W.cell? ⟨w.heap.size, 0, none⟩ = some (.int .i64 x.k) ∧ W.cell? ⟨w.heap.size, 1, none⟩ = some (.int .i64 x.n) ∧ W.cell? ⟨w.heap.size, 2, none⟩ = some (.string x.s) ∧ W.cell? ⟨w.heap.size, 3, none⟩ = some (.int .i64 x.id)
theorem lpe_next {w : World} {a : Option Addr} {L : List AEnt} {x : AEnt} {b q : Nat} {c : AEnt} {W W' : World} (h : LpE w a L x b q c W) (hb : Below W.heap.size W W') : LpE w a L x b q c W' := by
  obtain ⟨⟨h1, h2⟩, h3, _⟩ := h
  exact ⟨⟨h1.later hb, Nat.lt_of_lt_of_le h2 hb.size⟩, cells4_next h3 h2 hb, (h1.later hb).cells⟩
theorem lpe_drew {w : World} {a : Option Addr} {L : List AEnt} {x : AEnt} {b q : Nat} {c : AEnt} {W : World} (h : LpE w a L x b q c W) : LpE w a L x b q c W.drew := lpe_next h (Below.refl _ _).drew

set_option maxRecDepth 100000 in
set_option maxHeartbeats 4000000 in
theorem l8_put (a : Option Addr) (cap : Nat) (L : List AEnt) (x : AEnt) (w : World) (hL : EntsAt w a L) (h0 : a = none → cap = 0) (hc : L.length ≤ cap) (hm : L.length ≤ 1048576) :
    Calls Try.prog 40 #[.slice a L.length cap, .agg #[.int .i64 x.k, .int .i64 x.n, .string x.s, .int .i64 x.id]] w
      fun e w' => ∃ v, e = .returned v ∧ OwnE w.heap.size v (insE L x) w' ∧ Below w.heap.size w w' := by
  have I0 : Hid (InE w (w.heap.size + 1) a L x _) := InE.start x hL 38
  clear hL
  go_enter Try.func40, Try.ntmps40
  go_wp2_with fail
  go_loopw [5] (fun i wr => ∃ k : Nat, k ≤ L.length ∧ i = .int .i64 k ∧ Hid ((∀ t c, t < k → L[t]? = some c → lessE c x = true) ∧ InE w (w.heap.size + 1) a L x wr)) (fun i _ => L.length - (intOf i).toNat)
  case atStart => exact ⟨0, Nat.zero_le _, rfl, ⟨fun t c h => absurd h (Nat.not_lt_zero _), I0.out⟩⟩
  case' round =>
    obtain ⟨k, hk, rfl, hH⟩ := hrel
    clear I0
    by_cases hlt : k < L.length
    case' pos =>
      obtain ⟨b, o, hab, hbl, hr⟩ := hH.out.2.ents.at hlt
      have hcx := List.getElem?_eq_getElem hlt
      revert hr hcx
      generalize L[k] = c
      intro hr hcx
      have hix : ∀ wx, (Instr.indexAt 25 (.slice a L.length cap) (.int .i64 k)).run Try.prog wx = .ok (.pointer (some ⟨b, o + k * 4, none⟩)) wx := fun wx => by
        rw [hab]; exact run_ix4 _ _ _ _ _ _ _ wx hlt Try.underlying25 (Try.sizeOf38 wx)
      have hT : LpE w a L x b (o + k * 4) c wr := ⟨⟨hH.out.2, hbl⟩, cells4_of hr, hH.out.2.cells⟩
      have hC : Hid (L[k]? = some c) := hcx
      have inh : Nonempty (Over (LpE w a L x b (o + k * 4) c)) := ⟨⟨wr, hT⟩⟩
      have f0 : ∀ p : Over (LpE w a L x b (o + k * 4) c), Cells4 p.W b (o + k * 4) c := fun p => p.ok.2.1
      have f1 : ∀ p : Over (LpE w a L x b (o + k * 4) c), p.W.cell? ⟨w.heap.size, 0, none⟩ = some (.int .i64 x.k) ∧ p.W.cell? ⟨w.heap.size, 1, none⟩ = some (.int .i64 x.n) ∧ p.W.cell? ⟨w.heap.size, 2, none⟩ = some (.string x.s) ∧ p.W.cell? ⟨w.heap.size, 3, none⟩ = some (.int .i64 x.id) := fun p => p.ok.2.2
      have hg1 : decide (k < L.length) = true := decide_eq_true hlt
      have hcon : ∀ W, Calls Try.prog 34 #[.agg #[.int .i64 c.k, .int .i64 c.n, .string c.s, .int .i64 c.id], .agg #[.int .i64 x.k, .int .i64 x.n, .string x.s, .int .i64 x.id]] W fun e w' => e = .returned (.bool (lessE c x)) ∧ Below W.heap.size W w' := fun W => less_entry c x W
      clear hab hr hbl hcx
      cases hs : lessE c x
      case' true =>
        rw [hs] at hcon
        go_wp2_with fail
        refine wp_region_over (S := LpE w a L x b (o + k * 4) c) (by kernel_rfl) (by kernel_rfl) (lpe_drew hT) ?_
        repeat (go_big_quiet_step (first | exact over_call (hcon _) (fun _ h => lpe_next (Over.ok _) h)))
        refine wpQuiet_nil ?_
        rintro wq ⟨p, hp⟩
        have hq := p.ok
        rw [← hp] at hq
        clear hp p f0 f1 inh
        go_wp2_with fail
        go_roundw
        case rel => exact ⟨k + 1, by omega, by go_num, ⟨fun t d ht hd => by
          by_cases htk : t = k
          · subst htk
            rw [hC.out] at hd; cases hd
            exact hs
          · exact hH.out.1 t d (by omega) hd, hq.1.1⟩⟩
        case measure => simp [intOf]; omega
      case' false =>
        have hkp : Hid (posE L x = k) := tw_len (p := fun d => lessE d x) L k hk (fun t d ht hd => hH.out.1 t d ht hd) (fun d hd => by rw [hC.out] at hd; cases hd; exact hs)
        rw [hs] at hcon
        go_wp2_with fail
        refine wp_region_over (S := LpE w a L x b (o + k * 4) c) (by kernel_rfl) (by kernel_rfl) (lpe_drew hT) ?_
        repeat (go_big_quiet_step (first | exact over_call (hcon _) (fun _ h => lpe_next (Over.ok _) h)))
        refine wpQuiet_nil ?_
        rintro wq ⟨p, hp⟩
        have hq := p.ok
        rw [← hp] at hq
        clear hp p f0 f1 inh
        have hqI : Hid (InE w (w.heap.size + 1) a L x wq) := hq.1.1
        have hce : ¬ cap = k := by omega
        have hzq : w.heap.size < wq.heap.size := hq.1.1.le
        clear hq hT hcon hs hix hH hlt hg1 hC
        go_wp2_with (at_builtin; refine append_ents rfl _ _ rfl wq.heap.size _ [] rfl (OwnE.made wq.heap.size wq (Nat.le_refl _)) _ _ _ (L.drop k) rfl (by simp) (ents_drop1 ((hqI.out.later ((Below.refl _ _).alloc (Nat.le_refl _) _)).ents) k) (fun h => by cases a; have := h0 rfl; omega; cases h) (by simp; omega) (by simp) ?_; intro a3 n3 c3 w3 ho hg hn hc)
    case' neg =>
      have hkp : Hid (posE L x = k) := tw_len (p := fun d => lessE d x) L k hk (fun t d ht hd => hH.out.1 t d ht hd) (fun d hd => by have := (List.getElem?_eq_some_iff.1 hd).1; omega)
      have hg1 : decide (k < L.length) = false := decide_eq_false hlt
      have inh : Nonempty (Over (InE w (w.heap.size + 1) a L x)) := ⟨⟨wr, hH.out.2⟩⟩
      go_wp2_with fail
      refine wp_region_over (S := InE w (w.heap.size + 1) a L x) (by kernel_rfl) (by kernel_rfl) hH.out.2.drew ?_
      repeat (go_big_quiet_step (fail))
      refine wpQuiet_nil ?_
      rintro wq ⟨p, hp⟩
      have hq := p.ok
      rw [← hp] at hq
      clear hp p inh
      have hqI : Hid (InE w (w.heap.size + 1) a L x wq) := hq
      have hzq : w.heap.size < wq.heap.size := hq.le
      clear hq hH hg1
      by_cases hce : cap = k
      case' pos =>
        go_wp2_with (at_builtin; refine append_ents rfl _ _ rfl wq.heap.size _ [] rfl (OwnE.made wq.heap.size wq (Nat.le_refl _)) _ _ _ (L.drop k) rfl (by simp) (Or.inl (by simp; omega)) (fun h => rfl) (by simp; omega) (by simp) ?_; intro a3 n3 c3 w3 ho hg hn hc)
        have hce2 := hce.symm
        subst hce2
      case' neg =>
        go_wp2_with (at_builtin; refine append_ents rfl _ _ rfl wq.heap.size _ [] rfl (OwnE.made wq.heap.size wq (Nat.le_refl _)) _ _ _ (L.drop k) rfl (by simp) (ents_drop1 ((hqI.out.later ((Below.refl _ _).alloc (Nat.le_refl _) _)).ents) k) (fun h => by cases a; have := h0 rfl; omega; cases h) (by simp; omega) (by simp) ?_; intro a3 n3 c3 w3 ho hg hn hc)
  all_goals
    have hn' : n3 = L.length - k := by simpa using hn
    subst hn'
    obtain ⟨p, hp⟩ : ∃ p, p = w3.heap.size := ⟨_, rfl⟩
    have hq3 : InE w w3.heap.size a L x w3 := (hqI.out.later (((Below.refl _ _).alloc (Nat.le_refl _) _).trans (hg.mono (Nat.le_refl _)))).up
    obtain ⟨hN3, h3⟩ : EntsAt w3 a3 (L.drop k) ∧ (a3 = none → c3 = 0) := by
      obtain ⟨a', c', hv, h, h'⟩ := ho.slice
      obtain ⟨e1, -, e2⟩ := Value.slice.inj hv
      subst e1 e2
      exact ⟨by simpa using h', fun e => (h e).1⟩
    have hS : SC w p a L x a3 (L.drop k) w3 := by
      rw [hp]
      exact SpE.c ⟨hq3, FarE.of hN3⟩
    have hwp : w.heap.size ≤ p := Nat.le_of_lt hS.1.ine.lt
    have hpp : p ≤ w3.heap.size := Nat.le_of_eq hp
    clear hN3 hq3 hg ho hn hqI hp hce hzq
    try clear hlt
    go_region_held_law (fun W => SC w p a L x a3 (L.drop k) W) (first | assumption | exact sc_drew (by assumption) | exact sc_alloc (by assumption) _ | exact sc_drew (sc_alloc (by assumption) _) | exact sc_alloc (sc_drew (by assumption)) _ | exact sc_next (by assumption) (by assumption))
      (first
        | (refine step_rows (some 30) rfl rfl _ _ rfl p _ [] rfl (by first | exact OwnE.made p _ (Nat.le_trans hpp (by simp)) | exact (OwnE.made p _ (Nat.le_trans hpp (by simp))).drew | exact (OwnE.made p _ (Nat.le_trans hpp (by simp))).alloc _ | exact ((OwnE.made p _ (Nat.le_trans hpp (by simp))).alloc _).drew | (have h := (OwnE.made p (w3.alloc (.cells #[.int .i64 x.k, .int .i64 x.n, .string x.s, .int .i64 x.id] 38)) (Nat.le_trans hpp (by simp))).drew; rw [size_alloc] at h; exact h) | fail) _ _ _ (L.take k) rfl (by simp; omega) (ents_take1 (‹SC w p a L x a3 (L.drop k) _›).1.ine.ents k) h0 (by simp; omega) (‹SC w p a L x a3 (L.drop k) _›).1.ine.le ?_; intro a5 n5 c5 w5 ho5 hg5 hb5 hn5 hc5; (try simp only [Act.put, List.setIfInBounds_toArray, List.set_cons_zero, List.set_cons_succ]); clear hn5 hc5)
        | (refine step_rows (some 33) rfl rfl _ _ rfl p _ ([] ++ L.take k) rfl (by first | exact ho5 | exact ho5.alloc _ | exact (ho5.alloc _).drew | fail) _ _ _ [x] rfl rfl (OneE.ents (by first | exact OneE.new _ x | exact (OneE.new _ x).drew | (have h := (OneE.new (w3.alloc (.cells #[] 38)) x).drew.kept hg5 (fun h => by have := Option.some.inj h; simp at this); rw [size_alloc] at h; exact h) | exact ((OneE.new w3 x).drew.alloc _).kept hg5 (fun h => by have := Option.some.inj h; simp at this) | exact ((OneE.new w3 x).alloc _).drew.kept hg5 (fun h => by have := Option.some.inj h; simp at this) | fail)) (fun h => by cases h) (by simp; omega) (‹SC w p a L x a3 (L.drop k) _›).1.ine.le ?_; intro a6 n6 c6 w6 ho6 hg6 hb6 hn6 hc6; (try simp only [Act.put, List.setIfInBounds_toArray, List.set_cons_zero, List.set_cons_succ]); clear hn6 hc6 hg6 hg5 ho5)
        | (refine step_rows (some 35) rfl rfl _ _ rfl p _ (([] ++ L.take k) ++ [x]) rfl ho6 _ _ _ (L.drop k) rfl (by simp <;> omega) (‹SC w p a L x a3 (L.drop k) _›).1.ents h3 (by simp; omega) (‹SC w p a L x a3 (L.drop k) _›).1.ine.le ?_; intro a7 n7 c7 w7 ho7 hg7 hb7 hn7 hc7; (try simp only [Act.put, List.setIfInBounds_toArray, List.set_cons_zero, List.set_cons_succ]); clear hn7 hc7 hg7 ho6)
        | fail)
    all_goals
      have hZ := ‹SC w p a L x a3 (L.drop k) w7›
      have hF : Hid (OwnE w.heap.size (.slice a7 n7 c7) (insE L x) w7 ∧ Below w.heap.size w w7) := ⟨by
        have h := ho7.mono hwp
        have he : insE L x = (([] ++ L.take k) ++ [x]) ++ L.drop k := by
          unfold insE
          rw [hkp.out]
          simp
        rw [he]
        exact h, hZ.1.ine.bel⟩
      clear hZ ho7 hb7 hb6 hb5
      go_wp2_with fail
      go_ret
      exact ⟨_, rfl, hF.out.1, hF.out.2⟩

end Go.Proofs.Ytobblnlefhkanaa
