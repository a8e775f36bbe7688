/- Contracts of spec.CondOk and spec.CondHas, over the seat's translation. -/
import Derived.Test.YtmlclmilchfihaaCo1
import Derived.Test.YtmlclmilchfihaaShI9
import Derived.Test.YtmlclmilchfihaaRwA
import Derived.Test.YtmlclmilchfihaaOver
namespace Go.Proofs.Ytmlclmilchfihaa
open Go.RowKit

def kindOf (L : List ACol) (nm : ByteArray) : Int := match L[(placeOf L nm).toNat]? with | some c => c.kd | none => 0
/-- A condition can be asked of columns. -/
def condOk (L : List ACol) (nm : ByteArray) (how k n : Int) (s : ByteArray) : Bool :=
  shapeOk L && (decide (0 ≤ placeOf L nm) && (valOk k n s && ((decide (1 ≤ how) && decide (how ≤ 3)) && (k == kindOf L nm || (k == 0 && how == 1)))))

theorem place_lt (L : List ACol) (nm : ByteArray) (h : 0 ≤ placeOf L nm) : ∃ p : Nat, placeOf L nm = p ∧ p < L.length := by
  unfold placeOf at h ⊢
  cases hp : L.findIdx? (fun c => same c.nm nm) with
  | none => rw [hp] at h; simp at h
  | some i => exact ⟨i, rfl, (List.findIdx?_eq_some_iff_getElem.1 hp).1⟩

set_option maxRecDepth 100000 in
set_option maxHeartbeats 2000000 in
theorem spec_cond (a : Option Addr) (cap : Nat) (L : List ACol) (nm : ByteArray) (how k n : Int) (s : ByteArray) (w : World) (hL : ColsAt w a L) (hf : ∀ c ∈ L, c.fit) (hm : L.length ≤ maxLen) (hks : s.size ≤ maxLen) :
    Calls Try.prog 7 #[.slice a L.length cap, .agg #[.string nm, .int .i64 how, .int .i64 k, .int .i64 n, .string s]] w fun e w' => e = .returned (.bool (condOk L nm how k n s)) ∧ Below w.heap.size w w' := by
  have hL1 : Hid (ColsAt (w.alloc (.cells #[.string nm, .int .i64 how, .int .i64 k, .int .i64 n, .string s] 34)) a L) := hL.keep ((Below.refl _ _).alloc (Nat.le_refl _) _)
  have hH1 : Hid (Held5 w w.heap.size nm how k n s (w.alloc (.cells #[.string nm, .int .i64 how, .int .i64 k, .int .i64 n, .string s] 34))) := held5_box _ _ _ _ _ _ _
  clear hL
  cases hs : shapeOk L
  · go_enter Try.func7, Try.ntmps7
    go_wp2_with (go_at_call 19; refine (spec_shape _ _ _ _ hL1.out hf hm).mono ?_; rintro e w' ⟨rfl, hb⟩)
    go_ret
    exact ⟨ret_bool (by simp [condOk, hs]), (held5_next hH1.out ‹Below _ _ _›).2.2.2.2.2.2⟩
  go_enter Try.func7, Try.ntmps7
  go_wp2_with fail
  refine (spec_shape _ _ _ _ hL1.out hf hm).mono ?_
  rintro e w1 ⟨rfl, hb⟩
  rw [hs]
  have hH2 := held5_next hH1.out hb
  have hL2 : Hid (ColsAt w1 a L) := hL1.out.keep hb
  clear hb hL1 hH1
  by_cases hp : 0 ≤ placeOf L nm
  rotate_left
  · go_wp2_with (go_at_call 20; refine (l2_at _ _ _ _ _ hL2.out hm).mono ?_; rintro e w'' ⟨rfl, rfl⟩)
    go_ret
    exact ⟨ret_bool (by rw [condOk, decide_eq_false (p := 0 ≤ placeOf L nm) (by omega)]; simp), hH2.2.2.2.2.2.2⟩
  obtain ⟨p, hpe, hlt⟩ := place_lt L nm hp
  have hkd : kindOf L nm = L[p].kd := by simp [kindOf, hpe, hlt]
  have hm2 := hm
  unfold maxLen at hm2
  have hat : Hid (∀ W, ColsAt W a L → Calls Try.prog 20 #[.slice a L.length cap, .string nm] W fun e w' => e = .returned (.int .i64 (p : Int)) ∧ w' = W) := fun W h => by
    have := l2_at a cap L nm W h hm
    rwa [hpe] at this
  have hgoal : Hid (condOk L nm how k n s = (valOk k n s && ((decide (1 ≤ how) && decide (how ≤ 3)) && (k == L[p].kd || (k == 0 && how == 1))))) := by
    unfold Hid condOk
    rw [hs, hkd]
    simp [hp]
  clear hkd hp hpe hs
  go_wp2_with (go_at_call 20; refine (hat.out _ hL2.out).mono ?_; rintro e w'' ⟨rfl, rfl⟩)
  refine (spec_ok _ _ _ _ hks).mono ?_
  rintro e w2 ⟨rfl, hb⟩
  have hH3 := held5_next hH2 hb
  have hL3 : Hid (ColsAt w2 a L) := hL2.out.keep hb
  clear hb hL2 hH2
  cases hv : valOk k n s
  · go_wp2_with fail
    go_ret
    exact ⟨ret_bool (by rw [hgoal.out]; simp [hv]), hH3.2.2.2.2.2.2⟩
  by_cases h1 : 1 ≤ how
  rotate_left
  · go_wp2_with fail
    go_ret
    exact ⟨ret_bool (by rw [hgoal.out, decide_eq_false (p := 1 ≤ how) (by omega)]; simp), hH3.2.2.2.2.2.2⟩
  by_cases h3 : how ≤ 3
  rotate_left
  · go_wp2_with fail
    go_ret
    exact ⟨ret_bool (by rw [hgoal.out, decide_eq_false (p := how ≤ 3) (by omega)]; simp), hH3.2.2.2.2.2.2⟩
  obtain ⟨b1, o1, hab1, hbl1, hr1⟩ := hL3.out.at hlt
  have hix : ∀ wx, (Instr.indexAt 30 (.slice a L.length cap) (.int .i64 p)).run Try.prog wx = .ok (.pointer (some ⟨b1, o1 + p * 7, none⟩)) wx := fun wx => by
    rw [hab1]; exact run_ix _ _ _ _ _ _ _ wx hlt Try.underlying30 (Try.sizeOf53 wx)
  have hT := cells7_of hr1
  clear hab1 hr1
  revert hT hgoal
  generalize L[p] = c
  intro hgoal hT
  obtain ⟨_, hT1, _⟩ := hT
  go_wp2_with (go_at_call 20; refine (hat.out _ hL3.out).mono ?_; rintro e w'' ⟨rfl, rfl⟩)
  all_goals
    go_ret
    refine ⟨ret_bool ?_, hH3.2.2.2.2.2.2⟩
    rw [hgoal.out, decide_eq_true (p := 1 ≤ how) (by omega), decide_eq_true (p := how ≤ 3) (by omega), hv]
    simp_all

def condHas (L : List ACol) (nm : ByteArray) (how k n : Int) (s : ByteArray) (V : List AVal) : Bool :=
  condOk L nm how k n s && (decide (V.length = L.length) && match V[(placeOf L nm).toNat]? with | some v => hasV how k n s v.k v.n v.s | none => false)

/-- A condition in its box, columns and values lie in W, and W lies over w. -/
def CH (w : World) (a b : Option Addr) (L : List ACol) (V : List AVal) (nm : ByteArray) (how k n : Int) (s : ByteArray) (W : World) : Prop := Held5 w w.heap.size nm how k n s W ∧ ColsAt W a L ∧ ValsAt W b V
theorem ch_next {w : World} {a b : Option Addr} {L : List ACol} {V : List AVal} {nm : ByteArray} {how k n : Int} {s : ByteArray} {W W' : World} (h : CH w a b L V nm how k n s W) (hb : Below W.heap.size W W') : CH w a b L V nm how k n s W' := ⟨held5_next h.1 hb, h.2.1.keep hb, h.2.2.keep hb⟩
theorem ch_drew {w : World} {a b : Option Addr} {L : List ACol} {V : List AVal} {nm : ByteArray} {how k n : Int} {s : ByteArray} {W : World} (h : CH w a b L V nm how k n s W) : CH w a b L V nm how k n s W.drew := ch_next h (Below.refl _ _).drew

set_option maxRecDepth 100000 in
set_option maxHeartbeats 4000000 in
theorem spec_has (a b : Option Addr) (cap cap' : Nat) (L : List ACol) (nm : ByteArray) (how k n : Int) (s : ByteArray) (V : List AVal) (w : World) (hL : ColsAt w a L) (hV : ValsAt w b V) (hf : ∀ c ∈ L, c.fit) (hm : L.length ≤ maxLen) (_hm2 : V.length ≤ maxLen) (hks : s.size ≤ maxLen) :
    Calls Try.prog 13 #[.slice a L.length cap, .agg #[.string nm, .int .i64 how, .int .i64 k, .int .i64 n, .string s], .slice b V.length cap'] w fun e w' => e = .returned (.bool (condHas L nm how k n s V)) ∧ Below w.heap.size w w' := by
  have hb0 : Below w.heap.size w (w.alloc (.cells #[.string nm, .int .i64 how, .int .i64 k, .int .i64 n, .string s] 34)) := (Below.refl _ _).alloc (Nat.le_refl _) _
  have hT : CH w a b L V nm how k n s (w.alloc (.cells #[.string nm, .int .i64 how, .int .i64 k, .int .i64 n, .string s] 34)) := ⟨held5_box _ _ _ _ _ _ _, hL.keep hb0, hV.keep hb0⟩
  clear hL hV hb0
  have inh : Nonempty (Over (CH w a b L V nm how k n s)) := ⟨⟨_, hT⟩⟩
  have g0 : ∀ p : Over (CH w a b L V nm how k n s), p.W.cell? ⟨w.heap.size, 0, none⟩ = some (.string nm) := fun p => p.ok.1.1
  have g1 : ∀ p : Over (CH w a b L V nm how k n s), p.W.cell? ⟨w.heap.size, 1, none⟩ = some (.int .i64 how) := fun p => p.ok.1.2.1
  have g2 : ∀ p : Over (CH w a b L V nm how k n s), p.W.cell? ⟨w.heap.size, 2, none⟩ = some (.int .i64 k) := fun p => p.ok.1.2.2.1
  have g3 : ∀ p : Over (CH w a b L V nm how k n s), p.W.cell? ⟨w.heap.size, 3, none⟩ = some (.int .i64 n) := fun p => p.ok.1.2.2.2.1
  have g4 : ∀ p : Over (CH w a b L V nm how k n s), p.W.cell? ⟨w.heap.size, 4, none⟩ = some (.string s) := fun p => p.ok.1.2.2.2.2.1
  have hcon : ∀ p : Over (CH w a b L V nm how k n s), Calls Try.prog 7 #[.slice a L.length cap, .agg #[.string nm, .int .i64 how, .int .i64 k, .int .i64 n, .string s]] p.W fun e w' => e = .returned (.bool (condOk L nm how k n s)) ∧ Below p.W.heap.size p.W w' := fun p => spec_cond _ _ _ _ _ _ _ _ _ p.ok.2.1 hf hm hks
  cases hok : condOk L nm how k n s
  · rw [hok] at hcon
    go_enter Try.func13, Try.ntmps13
    go_wp2_with fail
    refine wp_region_over (S := CH w a b L V nm how k n s) (by kernel_rfl) (by kernel_rfl) (ch_drew hT) ?_
    repeat (go_big_quiet_step (first | exact over_call (hcon _) (fun _ h => ch_next (Over.ok _) h)))
    refine wpQuiet_nil ?_
    rintro wq ⟨pp, hp⟩
    have hZ := pp.ok
    rw [← hp] at hZ
    clear hp pp g0 g1 g2 g3 g4 inh hT
    go_wp2_with fail
    go_ret
    exact ⟨ret_bool (by simp [condHas, hok]), hZ.1.2.2.2.2.2.2⟩
  by_cases hlen : V.length = L.length
  rotate_left
  · rw [hok] at hcon
    have hl2 : (V.length == L.length) = false := by simp [hlen]
    have hl3 : ((V.length : Int) == (L.length : Int)) = false := by simp; omega
    go_enter Try.func13, Try.ntmps13
    go_wp2_with fail
    refine wp_region_over (S := CH w a b L V nm how k n s) (by kernel_rfl) (by kernel_rfl) (ch_drew hT) ?_
    repeat (go_big_quiet_step (first | exact over_call (hcon _) (fun _ h => ch_next (Over.ok _) h)))
    refine wpQuiet_nil ?_
    rintro wq ⟨pp, hp⟩
    have hZ := pp.ok
    rw [← hp] at hZ
    clear hp pp g0 g1 g2 g3 g4 inh hT
    go_wp2_with fail
    go_ret
    exact ⟨ret_bool (by simp [condHas, hlen]), hZ.1.2.2.2.2.2.2⟩
  have hp : 0 ≤ placeOf L nm := by
    by_cases h : 0 ≤ placeOf L nm
    · exact h
    · rw [condOk, decide_eq_false h] at hok
      simp at hok
  obtain ⟨p, hpe, hlt⟩ := place_lt L nm hp
  have hlt2 : p < V.length := by omega
  have hgoal : Hid (condHas L nm how k n s V = hasV how k n s V[p].k V[p].n V[p].s) := by
    unfold Hid condHas
    rw [hok, hpe, Int.toNat_natCast, List.getElem?_eq_getElem hlt2]
    simp [hlen]
  have hcat : ∀ p' : Over (CH w a b L V nm how k n s), Calls Try.prog 20 #[.slice a L.length cap, .string nm] p'.W fun e w' => e = .returned (.int .i64 (p : Int)) ∧ w' = p'.W := fun p' => by
    have := l2_at a cap L nm p'.W p'.ok.2.1 hm
    rwa [hpe] at this
  obtain ⟨b1, o1, hab1, _, _⟩ := hT.2.2.at hlt2
  have hix : ∀ wx, (Instr.indexAt 41 (.slice b L.length cap') (.int .i64 p)).run Try.prog wx = .ok (.pointer (some ⟨b1, o1 + p * 3, none⟩)) wx := fun wx => by
    rw [hab1]; exact run_ix3 _ _ _ _ _ _ _ wx hlt Try.underlying41 (Try.sizeOf32 wx)
  have g5 : ∀ p' : Over (CH w a b L V nm how k n s), Cells3 p'.W b1 (o1 + p * 3) V[p] := fun p' => by
    obtain ⟨b2, o2, hab2, _, hr⟩ := p'.ok.2.2.at hlt2
    rw [hab1] at hab2
    simp only [Option.some.injEq, Addr.mk.injEq] at hab2
    obtain ⟨rfl, rfl, _⟩ := hab2
    exact cells3_of hr
  rw [hok] at hcon
  revert hgoal g5
  generalize V[p] = v
  intro hgoal g5
  have hhas : ∀ p' : Over (CH w a b L V nm how k n s), Calls Try.prog 26 #[.agg #[.string nm, .int .i64 how, .int .i64 k, .int .i64 n, .string s], .agg #[.int .i64 v.k, .int .i64 v.n, .string v.s]] p'.W fun e w' => e = .returned (.bool (hasV how k n s v.k v.n v.s)) ∧ Below p'.W.heap.size p'.W w' := fun p' => l7_has _ _ _ _ _ _ _ _ _
  rw [hlen]
  clear hpe hp hok hab1
  go_enter Try.func13, Try.ntmps13
  go_wp2_with fail
  refine wp_region_over (S := CH w a b L V nm how k n s) (by kernel_rfl) (by kernel_rfl) (ch_drew hT) ?_
  repeat (go_big_quiet_step (first | exact over_call (hcon _) (fun _ h => ch_next (Over.ok _) h) | exact over_call (hcat _) (fun _ h => h ▸ Over.ok _) | exact over_call (hhas _) (fun _ h => ch_next (Over.ok _) h)))
  refine wpQuiet_nil ?_
  rintro wq ⟨pp, hp⟩
  have hZ := pp.ok
  rw [← hp] at hZ
  clear hp pp g0 g1 g2 g3 g4 inh hT g5
  go_wp2_with fail
  go_ret
  exact ⟨ret_bool (by rw [hgoal.out]), hZ.1.2.2.2.2.2.2⟩

end Go.Proofs.Ytmlclmilchfihaa
