/- The contract of (*impl.sorted).place at entries, over the seat's translation. -/
import Derived.Test.YtobblnlefhkanaaIxB1
import Derived.Test.YtobblnlefhkanaaIxF2
namespace Go.Proofs.Ytobblnlefhkanaa
open Go.RowKit

/-- So many stand ahead of x. -/
def posE (M : List AEnt) (x : AEnt) : Nat := (M.takeWhile fun c => lessE c x).length
theorem tw_in {p : AEnt → Bool} (M : List AEnt) : ∀ t c, t < (M.takeWhile p).length → M[t]? = some c → p c = true := by
  induction M with
  | nil => intro t c h; simp at h
  | cons d M ih =>
    intro t c h hc
    cases hd : p d
    · simp [hd] at h
    · cases t with
      | zero => simp at hc; subst hc; exact hd
      | succ t => exact ih t c (by simpa [List.takeWhile_cons, hd] using h) (by simpa using hc)
theorem tw_end {p : AEnt → Bool} (M : List AEnt) : ∀ c, M[(M.takeWhile p).length]? = some c → p c = false := by
  induction M with
  | nil => intro c h; simp at h
  | cons d M ih =>
    intro c hc
    cases hd : p d
    · simp [hd] at hc; subst hc; exact hd
    · exact ih c (by simpa [List.takeWhile_cons, hd] using hc)
theorem isAt_pos {M : List AEnt} (hA : Asc M) (x : AEnt) : IsAt M x (posE M x) := by
  refine ⟨(List.takeWhile_prefix _).length_le, tw_in M, fun t c ht hc => ?_⟩
  have hp : posE M x < M.length := by have := (List.getElem?_eq_some_iff.1 hc).1; omega
  have he := List.getElem?_eq_getElem hp
  exact isAt_down hA he (tw_end (p := fun c => lessE c x) M _ he) t c ht hc
theorem isAt_one {M : List AEnt} {x : AEnt} {i j : Nat} (h : IsAt M x i) (k : IsAt M x j) : i = j := by
  rcases Nat.lt_trichotomy i j with hij | hij | hij
  · have hl : i < M.length := by have := k.1; omega
    have he := List.getElem?_eq_getElem hl
    have := k.2.1 i _ hij he
    rw [h.2.2 i _ (Nat.le_refl _) he] at this; cases this
  · exact hij
  · have hl : j < M.length := by have := h.1; omega
    have he := List.getElem?_eq_getElem hl
    have := h.2.1 j _ hij he
    rw [k.2.2 j _ (Nat.le_refl _) he] at this; cases this
def thereE (M : List AEnt) (x : AEnt) : Bool := isThere M x (posE M x)

theorem search_at (a : Option Addr) (cap : Nat) (M : List AEnt) (x : AEnt) (w : World) (ha : EntsAt w a M) (hA : Asc M) (hm : M.length ≤ 1048576) :
    Calls Try.prog 61 #[.slice a M.length cap, .agg #[.int .i64 x.k, .int .i64 x.n, .string x.s, .int .i64 x.id], .func (.func 50) #[] #[]] w
      fun e w' => e = .returned (.tuple #[.int .i64 (posE M x : Nat), .bool (thereE M x)]) ∧ Below w.heap.size w w' :=
  (search a cap M x w ha hA hm).mono fun e w' ⟨i, he, hi, hb⟩ => by
    have := isAt_one hi (isAt_pos hA x)
    subst this
    exact ⟨he, hb⟩

/-- The list in the box at B holds these entries. -/
abbrev Lst (B : Nat) (a : Option Addr) (c : Nat) (M : List AEnt) (W : World) : Prop := SBox B (.slice a M.length c) (.func (.func 50) #[] #[]) W ∧ EntsAt W a M ∧ B < W.heap.size
theorem lst_next {B : Nat} {a : Option Addr} {c : Nat} {M : List AEnt} {W W' : World} (h : Lst B a c M W) (hb : Below W.heap.size W W') : Lst B a c M W' :=
  ⟨sbox_next h.1 h.2.2 hb, h.2.1.keep hb, Nat.lt_of_lt_of_le h.2.2 hb.size⟩

/-- Besides, x in a box. -/
abbrev LstBox (w : World) (B : Nat) (a : Option Addr) (c : Nat) (M : List AEnt) (C : Nat) (x : AEnt) (W : World) : Prop :=
  Lst B a c M W ∧ (W.cell? ⟨C, 0, none⟩ = some (.int .i64 x.k) ∧ W.cell? ⟨C, 1, none⟩ = some (.int .i64 x.n) ∧ W.cell? ⟨C, 2, none⟩ = some (.string x.s) ∧ W.cell? ⟨C, 3, none⟩ = some (.int .i64 x.id)) ∧ C < W.heap.size ∧ Below w.heap.size w W
theorem lstbox_next {w : World} {B : Nat} {a : Option Addr} {c : Nat} {M : List AEnt} {C : Nat} {x : AEnt} {W W' : World} (h : LstBox w B a c M C x W) (hb : Below W.heap.size W W') : LstBox w B a c M C x W' := by
  obtain ⟨h1, ⟨g0, g1, g2, g3⟩, h3, h5⟩ := h
  have hc := fun o => (bcell hb).1 C o h3
  exact ⟨lst_next h1 hb, ⟨(hc _).trans g0, (hc _).trans g1, (hc _).trans g2, (hc _).trans g3⟩, Nat.lt_of_lt_of_le h3 hb.size, h5.trans (hb.mono h5.size)⟩

set_option maxRecDepth 100000 in
set_option maxHeartbeats 2000000 in
theorem place_of (B : Nat) (a : Option Addr) (cap : Nat) (M : List AEnt) (x : AEnt) (w : World) (hL : Lst B a cap M w) (hA : Asc M) (hm : M.length ≤ 1048576) :
    Calls Try.prog 53 #[.pointer (some ⟨B, 0, none⟩), .agg #[.int .i64 x.k, .int .i64 x.n, .string x.s, .int .i64 x.id]] w
      fun e w' => e = .returned (.tuple #[.int .i64 (posE M x : Nat), .bool (thereE M x)]) ∧ Below w.heap.size w w' := by
  have bA : Below w.heap.size w (w.alloc (.cells #[.int .i64 x.k, .int .i64 x.n, .string x.s, .int .i64 x.id] 38)) := (Below.refl _ _).alloc (Nat.le_refl _) _
  have hT : LstBox w B a cap M w.heap.size x (w.alloc (.cells #[.int .i64 x.k, .int .i64 x.n, .string x.s, .int .i64 x.id] 38)) :=
    ⟨lst_next hL bA, (Box.start w [.int .i64 x.k, .int .i64 x.n, .string x.s, .int .i64 x.id] 38).four, by simp, bA⟩
  have inh : Nonempty (Over (LstBox w B a cap M w.heap.size x)) := ⟨⟨_, hT⟩⟩
  have f0 : ∀ q : Over (LstBox w B a cap M w.heap.size x), SBox B (.slice a M.length cap) (.func (.func 50) #[] #[]) q.W := fun q => q.ok.1.1
  have f1 : ∀ q : Over (LstBox w B a cap M w.heap.size x), q.W.cell? ⟨w.heap.size, 0, none⟩ = some (.int .i64 x.k) ∧ q.W.cell? ⟨w.heap.size, 1, none⟩ = some (.int .i64 x.n) ∧ q.W.cell? ⟨w.heap.size, 2, none⟩ = some (.string x.s) ∧ q.W.cell? ⟨w.heap.size, 3, none⟩ = some (.int .i64 x.id) := fun q => q.ok.2.1
  have hcon : ∀ q : Over (LstBox w B a cap M w.heap.size x), Calls Try.prog 61 #[.slice a M.length cap, .agg #[.int .i64 x.k, .int .i64 x.n, .string x.s, .int .i64 x.id], .func (.func 50) #[] #[]] q.W
      fun e w' => e = .returned (.tuple #[.int .i64 (posE M x : Nat), .bool (thereE M x)]) ∧ Below q.W.heap.size q.W w' := fun q => search_at _ _ _ _ _ q.ok.1.2.1 hA hm
  clear bA hL
  go_enter Try.func53, Try.ntmps53
  go_wp2_with fail
  refine wp_region_over (S := LstBox w B a cap M w.heap.size x) (by kernel_rfl) (by kernel_rfl) (lstbox_next hT (Below.refl _ _).drew) ?_
  repeat (go_big_quiet_step (exact over_call (hcon _) (fun _ h => lstbox_next (Over.ok _) h)))
  refine wpQuiet_nil ?_
  rintro wq ⟨pp, hp⟩
  have hZ := pp.ok
  rw [← hp] at hZ
  clear hp pp inh f0 f1 hcon
  go_wp2_with fail
  go_ret2
  exact ⟨rfl, hZ.2.2.2⟩

end Go.Proofs.Ytobblnlefhkanaa
