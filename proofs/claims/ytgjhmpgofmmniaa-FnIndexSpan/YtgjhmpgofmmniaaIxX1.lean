/- The contract of spec.l8Some, over the seat's translation. -/
import Derived.Test.YtgjhmpgofmmniaaG01
import Derived.Test.YtgjhmpgofmmniaaG05
import Derived.Test.YtgjhmpgofmmniaaIxR1
namespace Go.Proofs.Ytgjhmpgofmmniaa
open Go.RowKit

theorem upd_turn {g : Nat} {W W' : World} (h : Upd g W W') : Turn g W W' := ⟨h.os, h.tape, h.output, h.size, h.block⟩
theorem turn_upd {g : Nat} {W W' : World} (h : Turn g W W') : Upd g W W' := ⟨h.os, h.tape, h.output, h.size, h.block⟩

theorem RowE.apart {base b n c : Nat} {a : Option Addr} {L : List AEnt} {W W' : World} (h : RowE base (.slice a n c) L W) (ht : Turn b W W') (hne : ∀ A, a = some A → A.block ≠ b) : RowE base (.slice a n c) L W' := by
  rcases h with h | ⟨b', cap, hv, h1, h2, h3, h4, h5⟩
  · exact Or.inl h
  · have hb' : b' ≠ b := hne ⟨b', 0, none⟩ (Value.slice.inj hv).1
    refine Or.inr ⟨b', cap, hv, h1, Nat.lt_of_lt_of_le h2 ht.size, h3, ht.ents h4 (Or.inr fun x y e => by cases e; exact hb'), fun j hj => ?_⟩
    rw [ht.cell h2 hb', ht.frozen h2 hb']
    exact h5 j hj
theorem RowE.hi {base n c : Nat} {a : Option Addr} {L : List AEnt} {W : World} (h : RowE base (.slice a n c) L W) : ∀ A, a = some A → base ≤ A.block ∧ A.block < W.heap.size := by
  intro A hA
  rcases h with ⟨hv, _⟩ | ⟨b', cap, hv, h1, h2, _⟩
  · have := (Value.slice.inj hv).1
    rw [hA] at this
    cases this
  · have := (Value.slice.inj hv).1
    rw [hA] at this
    cases this
    exact ⟨h1, h2⟩
theorem RowE.upd {base g n c : Nat} {a : Option Addr} {L : List AEnt} {W W' : World} (h : RowE base (.slice a n c) L W) (hu : Upd g W W') (hg : g < base) : RowE base (.slice a n c) L W' :=
  h.apart (upd_turn hu) fun A hA => by have := (h.hi A hA).1; omega
theorem RowE.one {base n c : Nat} {a : Option Addr} {L : List AEnt} {W : World} (h : RowE base (.slice a n c) L W) (hl : 0 < L.length) : ∃ b, a = some ⟨b, 0, none⟩ ∧ b < W.heap.size ∧ W.there b 0 (L.length * 4) ∧ EntsAt W (some ⟨b, 0, none⟩) L := by
  rcases h with ⟨_, hL⟩ | ⟨b', cap, hv, h1, h2, _, h4, h5⟩
  · subst hL; simp at hl
  · exact ⟨b', (Value.slice.inj hv).1, h2, h5, h4⟩
theorem RowE.caps {base n c : Nat} {a : Option Addr} {L : List AEnt} {W : World} (h : RowE base (.slice a n c) L W) (hn : n = L.length) : (a = none → c = 0) ∧ L.length ≤ c := by
  rcases h with ⟨hv, hL⟩ | ⟨b', cap, hv, h1, h2, h3, _⟩
  · obtain ⟨rfl, -, rfl⟩ := Value.slice.inj hv
    subst hL
    exact ⟨fun _ => rfl, Nat.le_refl _⟩
  · obtain ⟨rfl, -, rfl⟩ := Value.slice.inj hv
    exact ⟨(fun e => by cases e), h3⟩
theorem row_put {base b n c k : Nat} {L : List AEnt} {W : World} (h : RowE base (.slice (some ⟨b, 0, none⟩) n c) L W) (hk : k < L.length) (d : AEnt) : RowE base (.slice (some ⟨b, 0, none⟩) n c) (L.set k d) (W.setCells b (k * 4) d.cells) := by
  rcases h with ⟨hv, _⟩ | ⟨b', cap, hv, h1, h2, h3, h4, h5⟩
  · cases hv
  · cases hv
    have hlen : d.cells.length = 4 := rfl
    have hth : (W.setCells b (k * 4) d.cells).there b 0 (L.length * 4) := World.there_setCells h5 _ _ _
    refine Or.inr ⟨b, c, by rw [List.length_set], h1, by rw [size_sets]; exact h2, by rw [List.length_set]; exact h3, Or.inr ⟨b, 0, rfl, by rw [size_sets]; exact h2, fun i e he => ?_⟩, by rw [List.length_set]; exact hth⟩
    rw [Nat.zero_add]
    by_cases hik : i = k
    · subst hik
      rw [List.getElem?_set_self hk] at he
      cases he
      exact World.rangeAt_setCells_same _ _ _ _ (fun j hj => by
        have := h5 (i * 4 + j) (by rw [hlen] at hj; omega)
        rwa [Nat.zero_add] at this)
    · rw [List.getElem?_set_ne (fun e => hik e.symm)] at he
      rcases h4 with h | ⟨b', o', e', _, hr⟩
      · subst h; simp at hk
      · cases e'
        have := hr i e he
        rw [Nat.zero_add] at this
        have he4 : e.cells.length = 4 := rfl
        rcases Nat.lt_or_gt_of_ne hik with hlt | hgt
        · exact World.rangeAt_setCells_apart this _ _ _ (Or.inr (Or.inl (by omega)))
        · exact World.rangeAt_setCells_apart this _ _ _ (Or.inr (Or.inr (by omega)))

/-- The box of an entry, which may be written. -/
structure BoxE (b : Nat) (x : AEnt) (W : World) : Prop where
  c0 : W.cell? ⟨b, 0, none⟩ = some (.int .i64 x.k)
  c1 : W.cell? ⟨b, 1, none⟩ = some (.int .i64 x.n)
  c2 : W.cell? ⟨b, 2, none⟩ = some (.string x.s)
  c3 : W.cell? ⟨b, 3, none⟩ = some (.int .i64 x.id)
  fr : W.frozen? ⟨b, 0, none⟩ = false ∧ W.frozen? ⟨b, 1, none⟩ = false ∧ W.frozen? ⟨b, 2, none⟩ = false ∧ W.frozen? ⟨b, 3, none⟩ = false
  lt : b < W.heap.size
theorem BoxE.all {b : Nat} {x : AEnt} {W : World} (h : BoxE b x W) : (W.cell? ⟨b, 0, none⟩ = some (.int .i64 x.k) ∧ W.cell? ⟨b, 1, none⟩ = some (.int .i64 x.n) ∧ W.cell? ⟨b, 2, none⟩ = some (.string x.s) ∧ W.cell? ⟨b, 3, none⟩ = some (.int .i64 x.id)) ∧ W.frozen? ⟨b, 0, none⟩ = false ∧ W.frozen? ⟨b, 1, none⟩ = false ∧ W.frozen? ⟨b, 2, none⟩ = false ∧ W.frozen? ⟨b, 3, none⟩ = false := ⟨⟨h.c0, h.c1, h.c2, h.c3⟩, h.fr⟩
theorem BoxE.apart {b g : Nat} {x : AEnt} {W W' : World} (h : BoxE b x W) (ht : Upd g W W') (hne : b ≠ g) : BoxE b x W' := by
  have hc := fun o => ht.cell (a := ⟨b, o, none⟩) h.lt hne
  have hf := fun o => ht.frozen (a := ⟨b, o, none⟩) h.lt hne
  exact ⟨by rw [hc]; exact h.c0, by rw [hc]; exact h.c1, by rw [hc]; exact h.c2, by rw [hc]; exact h.c3, by rw [hf, hf, hf, hf]; exact h.fr, Nat.lt_of_lt_of_le h.lt ht.size⟩
theorem BoxE.keep {b : Nat} {x : AEnt} {W W' : World} (h : BoxE b x W) (hb : Below W.heap.size W W') : BoxE b x W' := h.apart (Upd.ofBelow (g := b + 1) hb) (by omega)
theorem BoxE.new (W : World) (x : AEnt) (t : TypeId) : BoxE W.heap.size x (W.alloc (.cells #[.int .i64 x.k, .int .i64 x.n, .string x.s, .int .i64 x.id] t)) := by
  refine ⟨?_, ?_, ?_, ?_, ⟨?_, ?_, ?_, ?_⟩, by simp⟩
  all_goals go_simp
theorem BoxE.put {b : Nat} {x : AEnt} {W : World} (h : BoxE b x W) (y : AEnt) : BoxE b y ((((W.setCell ⟨b, 0, none⟩ (.int .i64 y.k)).setCell ⟨b, 1, none⟩ (.int .i64 y.n)).setCell ⟨b, 2, none⟩ (.string y.s)).setCell ⟨b, 3, none⟩ (.int .i64 y.id)) := by
  obtain ⟨h0, h1, h2, h3, ⟨f0, f1, f2, f3⟩, hl⟩ := h
  refine ⟨?_, ?_, ?_, ?_, ⟨?_, ?_, ?_, ?_⟩, ?_⟩
  all_goals go_simp
theorem BoxE.id {b : Nat} {x : AEnt} {W : World} (h : BoxE b x W) (z : Int) : BoxE b ⟨x.k, x.n, x.s, z⟩ (W.setCell ⟨b, 3, none⟩ (.int .i64 z)) := by
  obtain ⟨h0, h1, h2, h3, ⟨f0, f1, f2, f3⟩, hl⟩ := h
  refine ⟨?_, ?_, ?_, ?_, ⟨?_, ?_, ?_, ?_⟩, ?_⟩
  all_goals go_simp
theorem Upd.set4 {b : Nat} (W : World) (x y z u : Value) : Upd b W ((((W.setCell ⟨b, 0, none⟩ x).setCell ⟨b, 1, none⟩ y).setCell ⟨b, 2, none⟩ z).setCell ⟨b, 3, none⟩ u) := (Upd.set3 W x y z).trans (Upd.set _ _ _)
theorem Upd.set4d {b : Nat} (W : World) (x y z u : Value) : Upd b W ((((W.setCell ⟨b, 0, none⟩ x).setCell ⟨b, 1, none⟩ y).setCell ⟨b, 2, none⟩ z).setCell ⟨b, 3, none⟩ u).drew := (Upd.set4 W x y z u).trans (Upd.ofBelow (Below.refl _ _).drew)
theorem Upd.sets {b : Nat} (W : World) (o : Nat) (vs : List Value) : Upd b W (W.setCells b o vs) := turn_upd ((Turn.refl b W).sets o vs)

/-- While entries are drawn: the list so far, what is answered, and the reader. -/
structure Sm (B g q : Nat) (w : World) (a : Option Addr) (c : Nat) (L : List AEnt) (W : World) : Prop where
  row : RowE (w.heap.size + 1) (.slice a L.length c) L W
  res : BoxE w.heap.size ⟨0, 0, ⟨#[]⟩, 0⟩ W
  rd : Rd B g q W
  upd : Upd g w W
theorem Sm.step {B g q q' : Nat} {w : World} {a : Option Addr} {c : Nat} {L : List AEnt} {W W' : World} (h : Sm B g q w a c L W) (hg : g < w.heap.size) (hr : Rd B g q' W') (hu : Upd g W W') : Sm B g q' w a c L W' :=
  ⟨h.row.upd hu (by omega), h.res.apart hu (by omega), hr, h.upd.trans hu⟩
theorem Sm.keep {B g q : Nat} {w : World} {a : Option Addr} {c : Nat} {L : List AEnt} {W W' : World} (h : Sm B g q w a c L W) (hb : Below W.heap.size W W') : Sm B g q w a c L W' :=
  ⟨h.row.next hb, h.res.keep hb, h.rd.keep hb, h.upd.trans (Upd.ofBelow hb)⟩
theorem Sm.put {B g q : Nat} {w : World} {a : Option Addr} {c : Nat} {L : List AEnt} {W W' : World} (h : Sm B g q w a c L W) (hb : Below W.heap.size W W') {v : Value} {M : List AEnt} (hO : OwnE W.heap.size v M W') : ∃ a' c', v = .slice a' M.length c' ∧ Sm B g q w a' c' M W' := by
  have hr := hO.row
  obtain ⟨a', c', rfl, _⟩ := hr.slice
  exact ⟨a', c', rfl, hr.mono (by have := h.res.lt; omega), h.res.keep hb, h.rd.keep hb, h.upd.trans (Upd.ofBelow hb)⟩
/-- Besides, an entry in its box. -/
structure Se (B g q : Nat) (w : World) (a : Option Addr) (c : Nat) (L : List AEnt) (b : Nat) (x : AEnt) (W : World) : Prop where
  sm : Sm B g q w a c L W
  box : BoxE b x W
  ne : ∀ A, a = some A → A.block ≠ b
  hi : w.heap.size < b
theorem Se.step {B g q q' : Nat} {w : World} {a : Option Addr} {c : Nat} {L : List AEnt} {b : Nat} {x : AEnt} {W W' : World} (h : Se B g q w a c L b x W) (hg : g < w.heap.size) (hr : Rd B g q' W') (hu : Upd g W W') : Se B g q' w a c L b x W' :=
  ⟨h.sm.step hg hr hu, h.box.apart hu (by have := h.hi; omega), h.ne, h.hi⟩
theorem Se.start {B g q : Nat} {w : World} {a : Option Addr} {c : Nat} {L : List AEnt} {W : World} (h : Sm B g q w a c L W) (x : AEnt) (t : TypeId) : Se B g q w a c L W.heap.size x (W.alloc (.cells #[.int .i64 x.k, .int .i64 x.n, .string x.s, .int .i64 x.id] t)) :=
  ⟨h.keep (alloc_below _ _), BoxE.new _ _ _, fun A hA => by have := (h.row.hi A hA).2; omega, by have := h.res.lt; omega⟩
theorem Se.turn {B g q : Nat} {w : World} {a : Option Addr} {c : Nat} {L : List AEnt} {b : Nat} {x y : AEnt} {W W' : World} (h : Se B g q w a c L b x W) (hg : g < w.heap.size) (hB : B ≤ g) (hu : Upd b W W') (hy : BoxE b y W') : Se B g q w a c L b y W' :=
  ⟨⟨h.sm.row.apart (upd_turn hu) h.ne, h.sm.res.apart hu (by have := h.hi; omega), h.sm.rd.other hu (by have := h.hi; omega) (by have := h.hi; omega), h.sm.upd.other hu (by have := h.hi; omega)⟩, hy, h.ne, h.hi⟩
theorem Se.put {B g q : Nat} {w : World} {a : Option Addr} {c : Nat} {L : List AEnt} {b : Nat} {x : AEnt} {W : World} (h : Se B g q w a c L b x W) (hg : g < w.heap.size) (hB : B ≤ g) (y : AEnt) : Se B g q w a c L b y ((((W.setCell ⟨b, 0, none⟩ (.int .i64 y.k)).setCell ⟨b, 1, none⟩ (.int .i64 y.n)).setCell ⟨b, 2, none⟩ (.string y.s)).setCell ⟨b, 3, none⟩ (.int .i64 y.id)) :=
  h.turn hg hB (Upd.set4 _ _ _ _ _) (h.box.put y)
theorem Se.id {B g q : Nat} {w : World} {a : Option Addr} {c : Nat} {L : List AEnt} {b : Nat} {x : AEnt} {W : World} (h : Se B g q w a c L b x W) (hg : g < w.heap.size) (hB : B ≤ g) (z : Int) : Se B g q w a c L b ⟨x.k, x.n, x.s, z⟩ (W.setCell ⟨b, 3, none⟩ (.int .i64 z)) :=
  h.turn hg hB (Upd.set _ _ _) (h.box.id z)
theorem Se.twice {B g q : Nat} {w : World} {b' c : Nat} {L : List AEnt} {b : Nat} {x : AEnt} {W : World} (h : Se B g q w (some ⟨b', 0, none⟩) c L b x W) (hg : g < w.heap.size) (hB : B ≤ g) {k : Nat} (hk : k < L.length) (d : AEnt) : Se B g q w (some ⟨b', 0, none⟩) c (L.set k d) b x (W.setCells b' (k * 4) d.cells) := by
  have hu : Upd b' W (W.setCells b' (k * 4) d.cells) := Upd.sets _ _ _
  have hb' := (h.sm.row.hi _ rfl).1
  simp only at hb'
  exact ⟨⟨by rw [List.length_set]; exact row_put h.sm.row hk d, h.sm.res.apart hu (by omega), h.sm.rd.other hu (by omega) (by omega), h.sm.upd.other hu (by omega)⟩, h.box.apart hu (fun e => h.ne _ rfl e.symm), h.ne, h.hi⟩
/-- What l8Some answers: the box of the answer is filled. -/
theorem Se.done {B g q : Nat} {w : World} {a : Option Addr} {c : Nat} {L : List AEnt} {b : Nat} {x : AEnt} {W : World} (h : Se B g q w a c L b x W) (hg : g < w.heap.size) (hB : B ≤ g) {W' : World} (hu : Upd w.heap.size W W') : RowE w.heap.size (.slice a L.length c) L W' ∧ Rd B g q W' ∧ Upd g w W' :=
  ⟨(h.sm.row.apart (upd_turn hu) fun A hA => by have := (h.sm.row.hi A hA).1; omega).mono (by omega), h.sm.rd.other hu (by omega) (by omega), h.sm.upd.other hu (by omega)⟩

/-- What l8Some answers. -/
def SomeP (B g p : Nat) (w : World) (e : Ending) (w' : World) : Prop :=
  ∃ (a : Option Addr) (c : Nat) (L : List AEnt) (x : AEnt) (q : Nat), e = .returned (.tuple #[.slice a L.length c, .agg #[.int .i64 x.k, .int .i64 x.n, .string x.s, .int .i64 x.id]]) ∧ RowE w.heap.size (.slice a L.length c) L w' ∧ L.length ≤ 16 ∧ (∀ d ∈ L, d.s.size ≤ 5) ∧ x.s.size ≤ 5 ∧ q ≤ p + 70 ∧ Rd B g q w' ∧ Upd g w w'
theorem SomeP.mk {B g p : Nat} {w : World} {e : Ending} {w' : World} (h : ∃ (a : Option Addr) (c : Nat) (L : List AEnt) (x : AEnt) (q : Nat), e = .returned (.tuple #[.slice a L.length c, .agg #[.int .i64 x.k, .int .i64 x.n, .string x.s, .int .i64 x.id]]) ∧ RowE w.heap.size (.slice a L.length c) L w' ∧ L.length ≤ 16 ∧ (∀ d ∈ L, d.s.size ≤ 5) ∧ x.s.size ≤ 5 ∧ q ≤ p + 70 ∧ Rd B g q w' ∧ Upd g w w') : SomeP B g p w e w' := h

def num6 : List Int := [4, 8, 12, 2, 0, 16]
def id6 : List Int := [1, 2, 3, 60, 0, 61]

set_option maxRecDepth 100000 in
set_option maxHeartbeats 4000000 in
theorem l8_some (B g p : Nat) (w : World) (hr : Rd B g p w) (hp : p < 700000) :
    Calls Try.prog 28 #[.pointer (some ⟨g, 0, none⟩)] w fun e w' => SomeP B g p w e w' := by
  have hg : g < w.heap.size := hr.2.1
  have hBg : B ≤ g := hr.1
  have b0 := alloc_below w (.cells #[.int .i64 0, .int .i64 0, .string ⟨#[]⟩, .int .i64 0] 29)
  have b1 := alloc_below (w.alloc (.cells #[.int .i64 0, .int .i64 0, .string ⟨#[]⟩, .int .i64 0] 29)) (.cells #[] 29)
  have H0 : Hid (Sm B g p w (some ⟨w.heap.size + 1, 0, none⟩) 0 [] ((w.alloc (.cells #[.int .i64 0, .int .i64 0, .string ⟨#[]⟩, .int .i64 0] 29)).alloc (.cells #[] 29))) :=
    ⟨by have h := (OwnE.made (w.heap.size + 1) (w.alloc (.cells #[.int .i64 0, .int .i64 0, .string ⟨#[]⟩, .int .i64 0] 29)) (by simp)).row; rw [size_alloc] at h; exact h, (BoxE.new w ⟨0, 0, ⟨#[]⟩, 0⟩ _).keep b1, (hr.keep b0).keep b1, (Upd.ofBelow b0).trans (Upd.ofBelow b1)⟩
  clear hr b0 b1
  go_enter Try.func28, Try.ntmps28
  go_wp2_with fail
  refine (pick_any B g p _ _ H0.out.rd (by omega) (by omega) (by omega)).mono ?_
  rintro e w1 ⟨v1, rfl, hv1, hr1, hu1⟩
  have H1 : Hid (Sm B g (p + 1) w (some ⟨w.heap.size + 1, 0, none⟩) 0 [] w1) := H0.out.step hg hr1 hu1
  clear hr1 hu1 H0
  have hg1 : w1.heap.size ≠ g := by have := H1.out.rd.2.1; omega
  go_wp2_with fail
  refine (num_of_any B g (p + 1) w1.heap.size num6 _ (H1.out.rd.keep (alloc_below _ _)) (by omega) hg1 (by simp) (by decide) (by decide) (row_ints w1 num6 3)).mono ?_
  rintro e w2 ⟨z, rfl, hz, hr2, hu2⟩
  have H2 : Hid (Sm B g (p + 2) w (some ⟨w.heap.size + 1, 0, none⟩) 0 [] w2) := (H1.out.keep (alloc_below _ _)).step hg hr2 hu2
  clear hr2 hu2 H1 hg1
  obtain ⟨m0, hm0, rfl⟩ : ∃ m : Nat, m ≤ 16 ∧ z = m := by
    have h : ∀ x ∈ num6, 0 ≤ x ∧ x ≤ 16 := by decide
    have := h z hz
    exact ⟨z.toNat, by omega, by omega⟩
  clear hz
  go_wp2_with fail
  go_loopw [4, 6] (fun out i wr => ∃ (m q c : Nat) (a : Option Addr) (L : List AEnt), m ≤ 16 ∧ out = .slice a L.length c ∧ i = .int .i64 m ∧ L.length + m ≤ 16 ∧ q + 3 * m ≤ p + 50 ∧ Hid (Sm B g q w a c L wr ∧ ∀ d ∈ L, d.s.size ≤ 5)) (fun _ i _ => (intOf i).toNat)
  case atStart => exact ⟨m0, p + 2, 0, _, [], hm0, rfl, rfl, by simp; omega, by omega, H2.out, fun d hd => by simp at hd⟩
  case round =>
    obtain ⟨m, q, c, a, L, hm16, rfl, rfl, hLm, hqm, hH⟩ := hrel
    clear H2
    by_cases hm : 0 < m
    · go_wp2_with fail
      refine (l1_some B g q _ _ hH.out.1.rd (by omega)).mono ?_
      rintro e w3 ⟨k, n, s, q3, rfl, hs, hq3, hr3, hu3⟩
      have H3 : Hid (Sm B g q3 w a c L w3 ∧ ∀ d ∈ L, d.s.size ≤ 5) := ⟨hH.out.1.step hg hr3 hu3, hH.out.2⟩
      clear hr3 hu3 hH
      go_wp2_with fail
      refine (pick_any B g q3 _ _ H3.out.1.rd (by omega) (by omega) (by omega)).mono ?_
      rintro e w4 ⟨v4, rfl, hv4, hr4, hu4⟩
      have H4 : Hid (Sm B g (q3 + 1) w a c L w4 ∧ ∀ d ∈ L, d.s.size ≤ 5) := ⟨H3.out.1.step hg hr4 hu4, H3.out.2⟩
      clear hr4 hu4 H3
      obtain ⟨id, hid⟩ : ∃ id : Int, id = 1 + v4 := ⟨_, rfl⟩
      have hbx := (BoxE.new w4 ⟨k, n, s, id⟩ 29).all
      have H5 : Hid (Se B g (q3 + 1) w a c L w4.heap.size ⟨k, n, s, id⟩ (w4.alloc (.cells #[.int .i64 k, .int .i64 n, .string s, .int .i64 id] 29)) ∧ ∀ d ∈ L, d.s.size ≤ 5) := ⟨Se.start H4.out.1 ⟨k, n, s, id⟩ _, H4.out.2⟩
      clear H4
      rw [hid] at hbx H5
      go_wp2_with fail
      refine (spec_at a c L ⟨k, n, s, 1 + v4⟩ _ H5.out.1.sm.row.same (by unfold maxLen; omega)).mono ?_
      rintro e w5 ⟨z, rfl, -, hb⟩
      have hbx := (H5.out.1.box.keep hb).all
      have H6 : Hid (Sm B g (q3 + 1) w a c L w5 ∧ ∀ d ∈ L, d.s.size ≤ 5) := ⟨H5.out.1.sm.keep hb, H5.out.2⟩
      clear hb H5
      cases hz : decide (z < 0)
      · go_wp2_with fail
        go_roundw
        case rel => exact ⟨m - 1, q3 + 1, c, a, L, by omega, rfl, by go_num, by omega, by omega, H6.out⟩
        case measure => simp [intOf]; omega
      · go_wp2_with fail
        obtain ⟨h0, hc⟩ := H6.out.1.row.caps rfl
        refine (l8_put a c L ⟨k, n, s, 1 + v4⟩ _ H6.out.1.row.same h0 hc (by omega)).mono ?_
        rintro e w6 ⟨v, rfl, hO, hb⟩
        obtain ⟨a', c', rfl, hS⟩ := H6.out.1.put hb hO
        have H7 : Hid (Sm B g (q3 + 1) w a' c' (insE L ⟨k, n, s, 1 + v4⟩) w6 ∧ ∀ d ∈ insE L ⟨k, n, s, 1 + v4⟩, d.s.size ≤ 5) := ⟨hS, fun d hd => by
          unfold insE at hd
          rcases List.mem_append.1 hd with h | h
          · exact H6.out.2 d (List.mem_of_mem_take h)
          · rcases List.mem_cons.1 h with h | h
            · rw [h]; exact hs
            · exact H6.out.2 d (List.mem_of_mem_drop h)⟩
        have hil := ins_len L ⟨k, n, s, 1 + v4⟩
        clear hO hb hS H6 hbx
        generalize insE L ⟨k, n, s, 1 + v4⟩ = M at *
        go_wp2_with fail
        go_roundw
        case rel => exact ⟨m - 1, q3 + 1, c', a', M, by omega, by rw [hil], by go_num, by omega, by omega, H7.out⟩
        case measure => simp [intOf]; omega
    · have hm0 : m = 0 := by omega
      subst hm0
      go_wp2_with fail
      refine (l1_draw B g q _ hH.out.1.rd (by omega)).mono ?_
      rintro e w3 ⟨k, n, s, q3, rfl, hs, hq3, hr3, hu3⟩
      have H3 : Hid (Sm B g q3 w a c L w3) := hH.out.1.step hg hr3 hu3
      have HL : Hid (∀ d ∈ L, d.s.size ≤ 5) := hH.out.2
      clear hr3 hu3 hH
      have hg3 : w3.heap.size ≠ g := by have := H3.out.rd.2.1; omega
      go_wp2_with fail
      refine (num_of_any B g q3 w3.heap.size id6 _ (H3.out.rd.keep (alloc_below _ _)) (by omega) hg3 (by simp) (by decide) (by decide) (row_ints w3 id6 3)).mono ?_
      rintro e w4 ⟨id, rfl, -, hr4, hu4⟩
      have H4 : Hid (Sm B g (q3 + 1) w a c L w4) := (H3.out.keep (alloc_below _ _)).step hg hr4 hu4
      clear hr4 hu4 H3 hg3
      have H5 : Hid (Se B g (q3 + 1) w a c L w4.heap.size ⟨k, n, s, id⟩ (w4.alloc (.cells #[.int .i64 k, .int .i64 n, .string s, .int .i64 id] 29))) := Se.start H4.out ⟨k, n, s, id⟩ _
      clear H4
      by_cases hl : 0 < L.length
      · have hli : (0 : Int) < L.length := by omega
        by_cases h1 : 1 < L.length
        · have h1i : (1 : Int) < L.length := by omega
          go_wp2_with fail
          refine (pick_any B g (q3 + 1) _ _ H5.out.sm.rd (by omega) (by omega) (by omega)).mono ?_
          rintro e w5 ⟨v5, rfl, hv5, hr5, hu5⟩
          have H6 : Hid (Se B g (q3 + 1 + 1) w a c L w4.heap.size ⟨k, n, s, id⟩ w5) := H5.out.step hg hr5 hu5
          clear hr5 hu5 H5
          by_cases hv0 : ¬ 0 < v5
          · have HZ : Hid _ := H6.out
            clear H6
            go_wp2_with fail
            refine (pick_any B g (q3 + 1 + 1) _ _ HZ.out.sm.rd (by omega) (by omega) (by omega)).mono ?_
            rintro e w9 ⟨v9, rfl, hv9, hr9, hu9⟩
            have HZ2 := HZ.out.step hg hr9 hu9
            clear HZ hr9 hu9
            have HZ : Hid (Se B g (q3 + 1 + 1 + 1) w a c L w4.heap.size ⟨k, n, s, id⟩ w9) := HZ2
            clear HZ2
            by_cases hc9 : ¬ v9 = 0
            · have hbx := HZ.out.box.all
              have hrx := HZ.out.sm.res.all
              go_wp2_with fail
              go_region_with (fail)
              all_goals
                go_wp2_with fail
                exact bodyPost_ret (v := .tuple #[.slice a L.length c, .agg #[.int .i64 (⟨k, n, s, id⟩ : AEnt).k, .int .i64 (⟨k, n, s, id⟩ : AEnt).n, .string (⟨k, n, s, id⟩ : AEnt).s, .int .i64 (⟨k, n, s, id⟩ : AEnt).id]]) (by simp [results, Try.results28, go_sem, hrx]) rfl (SomeP.mk ⟨_, _, L, ⟨k, n, s, id⟩, q3 + 1 + 1 + 1, rfl, (HZ.out.done hg hBg (Upd.set4d _ _ _ _ _)).1, by omega, HL.out, hs, by omega, (HZ.out.done hg hBg (Upd.set4d _ _ _ _ _)).2.1, (HZ.out.done hg hBg (Upd.set4d _ _ _ _ _)).2.2⟩)
            · go_wp2_with fail
              refine (pick_any B g (q3 + 1 + 1 + 1) _ _ HZ.out.sm.rd (by omega) (by omega) (by omega)).mono ?_
              rintro e w10 ⟨v10, rfl, hv10, hr10, hu10⟩
              have HZ2 := HZ.out.step hg hr10 hu10
              clear HZ hr10 hu10
              obtain ⟨b', rfl, hb', hth, hents⟩ := HZ2.sm.row.one hl
              have hk1 : v10 + 1 < L.length := by omega
              have hk0 : v10 < L.length := by omega
              have hixA0 : ∀ wx, (Instr.indexAt 23 (.slice (some ⟨b', 0, none⟩) L.length c) (.int .i64 v10)).run Try.prog wx = .ok (.pointer (some ⟨b', v10 * 4, none⟩)) wx := fun wx => run_ix4o _ _ _ _ _ _ _ wx (Or.inl rfl) hk0 Try.underlying23 (Try.sizeOf29 wx)
              obtain ⟨r, hr⟩ : ∃ r, r = v10 + 1 := ⟨_, rfl⟩
              have hri : (1 : Int) + (v10 : Int) = (r : Int) := by omega
              have hri2 : (r : Int) - 1 = (v10 : Int) := by omega
              have hixA : ∀ wx, (Instr.indexAt 23 (.slice (some ⟨b', 0, none⟩) L.length c) (.int .i64 ((r : Int) - 1))).run Try.prog wx = .ok (.pointer (some ⟨b', v10 * 4, none⟩)) wx := fun wx => by
                rw [hri2]; exact hixA0 wx
              have hixB : ∀ wx, (Instr.indexAt 23 (.slice (some ⟨b', 0, none⟩) L.length c) (.int .i64 r)).run Try.prog wx = .ok (.pointer (some ⟨b', r * 4, none⟩)) wx := fun wx => by
                exact run_ix4o _ _ _ _ _ _ _ wx (Or.inl rfl) (by omega) Try.underlying23 (Try.sizeOf29 wx)
              obtain ⟨b2, o2, hab2, -, hr2⟩ := hents.at hk0
              cases hab2
              rw [Nat.zero_add] at hr2
              have HM : Hid (∀ d ∈ L.set r L[v10], d.s.size ≤ 5) := fun d hd => by
                rcases List.mem_or_eq_of_mem_set hd with h | h
                · exact HL.out d h
                · rw [h]; exact HL.out _ (List.getElem_mem hk0)
              have HZ3 := fun (y : AEnt) => HZ2.twice hg hBg (k := r) (by omega) y
              have hTh := there4_of hth (k := r) (by omega)
              revert hr2 HM
              generalize L[v10] = y2
              intro hr2 HM
              have hT2 := cells4_of hr2
              have HZ : Hid (Se B g (q3 + 1 + 1 + 1 + 1) w (some ⟨b', 0, none⟩) c (L.set r y2) w4.heap.size ⟨k, n, s, id⟩ ((((w10.setCell ⟨b', r * 4, none⟩ (.int .i64 y2.k)).setCell ⟨b', r * 4 + 1, none⟩ (.int .i64 y2.n)).setCell ⟨b', r * 4 + 2, none⟩ (.string y2.s)).setCell ⟨b', r * 4 + 3, none⟩ (.int .i64 y2.id))) := HZ3 y2
              obtain ⟨x0, x1, x2, x3, hTh⟩ := hTh
              have hbx := HZ2.box.all
              clear HZ2 HZ3 hr2 hents hth hr hri2 hb' hixA0
              go_wp2_with fail
              obtain ⟨M, hM⟩ : ∃ M, M = L.set r y2 := ⟨_, rfl⟩
              have hML : Hid (L.length = M.length) := by show L.length = M.length; rw [hM, List.length_set]
              rw [← hM] at HZ HM
              clear hbx hTh hixA hixB hT2
              generalize ((((w10.setCell ⟨b', r * 4, none⟩ (.int .i64 y2.k)).setCell ⟨b', r * 4 + 1, none⟩ (.int .i64 y2.n)).setCell ⟨b', r * 4 + 2, none⟩ (.string y2.s)).setCell ⟨b', r * 4 + 3, none⟩ (.int .i64 y2.id)) = wq at *
              have hbx := HZ.out.box.all
              have hrx := HZ.out.sm.res.all
              go_region_with (fail)
              all_goals
                go_wp2_with fail
                exact bodyPost_ret (v := .tuple #[.slice (some ⟨b', 0, none⟩) M.length c, .agg #[.int .i64 (⟨k, n, s, id⟩ : AEnt).k, .int .i64 (⟨k, n, s, id⟩ : AEnt).n, .string (⟨k, n, s, id⟩ : AEnt).s, .int .i64 (⟨k, n, s, id⟩ : AEnt).id]]) (by simp [results, Try.results28, go_sem, hrx, hML.out]) rfl (SomeP.mk ⟨_, _, M, ⟨k, n, s, id⟩, q3 + 1 + 1 + 1 + 1, rfl, (HZ.out.done hg hBg (Upd.set4d _ _ _ _ _)).1, by have := hML.out; omega, HM.out, hs, by omega, (HZ.out.done hg hBg (Upd.set4d _ _ _ _ _)).2.1, (HZ.out.done hg hBg (Upd.set4d _ _ _ _ _)).2.2⟩)
          · go_wp2_with fail
            refine (pick_any B g (q3 + 1 + 1) _ _ H6.out.sm.rd (by omega) (by omega) (by omega)).mono ?_
            rintro e w6 ⟨v6, rfl, hv6, hr6, hu6⟩
            have H7 : Hid (Se B g (q3 + 1 + 1 + 1) w a c L w4.heap.size ⟨k, n, s, id⟩ w6) := H6.out.step hg hr6 hu6
            clear hr6 hu6 H6
            have hv6' : v6 < L.length := by omega
            obtain ⟨b', o', hab, hbl, hr⟩ := H7.out.sm.row.same.at hv6'
            have hmem : L[v6] ∈ L := List.getElem_mem hv6'
            have hy5 : Hid (L[v6].s.size ≤ 5) := HL.out _ hmem
            clear hmem
            revert hr hy5
            generalize L[v6] = y
            intro hr hy5
            have hix : ∀ wx, (Instr.indexAt 23 (.slice a L.length c) (.int .i64 v6)).run Try.prog wx = .ok (.pointer (some ⟨b', o' + v6 * 4, none⟩)) wx := fun wx => by
              rw [hab]; exact run_ix4 _ _ _ _ _ _ _ wx hv6' Try.underlying23 (Try.sizeOf29 wx)
            have hT := cells4_of hr
            have hbx := H7.out.box.all
            have H8 := H7.out.put hg hBg y
            clear hab hr hbl H7
            have H8 : Hid _ := H8
            go_wp2_with fail
            refine (pick_any B g (q3 + 1 + 1 + 1) _ _ H8.out.sm.rd (by omega) (by omega) (by omega)).mono ?_
            rintro e w7 ⟨v7, rfl, hv7, hr7, hu7⟩
            have H9 : Hid (Se B g (q3 + 1 + 1 + 1 + 1) w a c L w4.heap.size y w7) := H8.out.step hg hr7 hu7
            clear hr7 hu7 H8 hT hix hbx
            by_cases hc7 : ¬ v7 = 0
            · have HZ : Hid _ := H9.out
              clear H9
              go_wp2_with fail
              refine (pick_any B g (q3 + 1 + 1 + 1 + 1) _ _ HZ.out.sm.rd (by omega) (by omega) (by omega)).mono ?_
              rintro e w9 ⟨v9, rfl, hv9, hr9, hu9⟩
              have HZ2 := HZ.out.step hg hr9 hu9
              clear HZ hr9 hu9
              have HZ : Hid (Se B g (q3 + 1 + 1 + 1 + 1 + 1) w a c L w4.heap.size y w9) := HZ2
              clear HZ2
              by_cases hc9 : ¬ v9 = 0
              · have hbx := HZ.out.box.all
                have hrx := HZ.out.sm.res.all
                go_wp2_with fail
                go_region_with (fail)
                all_goals
                  go_wp2_with fail
                  exact bodyPost_ret (v := .tuple #[.slice a L.length c, .agg #[.int .i64 y.k, .int .i64 y.n, .string y.s, .int .i64 y.id]]) (by simp [results, Try.results28, go_sem, hrx]) rfl (SomeP.mk ⟨_, _, L, y, q3 + 1 + 1 + 1 + 1 + 1, rfl, (HZ.out.done hg hBg (Upd.set4d _ _ _ _ _)).1, by omega, HL.out, hy5.out, by omega, (HZ.out.done hg hBg (Upd.set4d _ _ _ _ _)).2.1, (HZ.out.done hg hBg (Upd.set4d _ _ _ _ _)).2.2⟩)
              · go_wp2_with fail
                refine (pick_any B g (q3 + 1 + 1 + 1 + 1 + 1) _ _ HZ.out.sm.rd (by omega) (by omega) (by omega)).mono ?_
                rintro e w10 ⟨v10, rfl, hv10, hr10, hu10⟩
                have HZ2 := HZ.out.step hg hr10 hu10
                clear HZ hr10 hu10
                obtain ⟨b', rfl, hb', hth, hents⟩ := HZ2.sm.row.one hl
                have hk1 : v10 + 1 < L.length := by omega
                have hk0 : v10 < L.length := by omega
                have hixA0 : ∀ wx, (Instr.indexAt 23 (.slice (some ⟨b', 0, none⟩) L.length c) (.int .i64 v10)).run Try.prog wx = .ok (.pointer (some ⟨b', v10 * 4, none⟩)) wx := fun wx => run_ix4o _ _ _ _ _ _ _ wx (Or.inl rfl) hk0 Try.underlying23 (Try.sizeOf29 wx)
                obtain ⟨r, hr⟩ : ∃ r, r = v10 + 1 := ⟨_, rfl⟩
                have hri : (1 : Int) + (v10 : Int) = (r : Int) := by omega
                have hri2 : (r : Int) - 1 = (v10 : Int) := by omega
                have hixA : ∀ wx, (Instr.indexAt 23 (.slice (some ⟨b', 0, none⟩) L.length c) (.int .i64 ((r : Int) - 1))).run Try.prog wx = .ok (.pointer (some ⟨b', v10 * 4, none⟩)) wx := fun wx => by
                  rw [hri2]; exact hixA0 wx
                have hixB : ∀ wx, (Instr.indexAt 23 (.slice (some ⟨b', 0, none⟩) L.length c) (.int .i64 r)).run Try.prog wx = .ok (.pointer (some ⟨b', r * 4, none⟩)) wx := fun wx => by
                  exact run_ix4o _ _ _ _ _ _ _ wx (Or.inl rfl) (by omega) Try.underlying23 (Try.sizeOf29 wx)
                obtain ⟨b2, o2, hab2, -, hr2⟩ := hents.at hk0
                cases hab2
                rw [Nat.zero_add] at hr2
                have HM : Hid (∀ d ∈ L.set r L[v10], d.s.size ≤ 5) := fun d hd => by
                  rcases List.mem_or_eq_of_mem_set hd with h | h
                  · exact HL.out d h
                  · rw [h]; exact HL.out _ (List.getElem_mem hk0)
                have HZ3 := fun (y : AEnt) => HZ2.twice hg hBg (k := r) (by omega) y
                have hTh := there4_of hth (k := r) (by omega)
                revert hr2 HM
                generalize L[v10] = y2
                intro hr2 HM
                have hT2 := cells4_of hr2
                have HZ : Hid (Se B g (q3 + 1 + 1 + 1 + 1 + 1 + 1) w (some ⟨b', 0, none⟩) c (L.set r y2) w4.heap.size y ((((w10.setCell ⟨b', r * 4, none⟩ (.int .i64 y2.k)).setCell ⟨b', r * 4 + 1, none⟩ (.int .i64 y2.n)).setCell ⟨b', r * 4 + 2, none⟩ (.string y2.s)).setCell ⟨b', r * 4 + 3, none⟩ (.int .i64 y2.id))) := HZ3 y2
                obtain ⟨x0, x1, x2, x3, hTh⟩ := hTh
                have hbx := HZ2.box.all
                clear HZ2 HZ3 hr2 hents hth hr hri2 hb' hixA0
                go_wp2_with fail
                obtain ⟨M, hM⟩ : ∃ M, M = L.set r y2 := ⟨_, rfl⟩
                have hML : Hid (L.length = M.length) := by show L.length = M.length; rw [hM, List.length_set]
                rw [← hM] at HZ HM
                clear hbx hTh hixA hixB hT2
                generalize ((((w10.setCell ⟨b', r * 4, none⟩ (.int .i64 y2.k)).setCell ⟨b', r * 4 + 1, none⟩ (.int .i64 y2.n)).setCell ⟨b', r * 4 + 2, none⟩ (.string y2.s)).setCell ⟨b', r * 4 + 3, none⟩ (.int .i64 y2.id)) = wq at *
                have hbx := HZ.out.box.all
                have hrx := HZ.out.sm.res.all
                go_region_with (fail)
                all_goals
                  go_wp2_with fail
                  exact bodyPost_ret (v := .tuple #[.slice (some ⟨b', 0, none⟩) M.length c, .agg #[.int .i64 y.k, .int .i64 y.n, .string y.s, .int .i64 y.id]]) (by simp [results, Try.results28, go_sem, hrx, hML.out]) rfl (SomeP.mk ⟨_, _, M, y, q3 + 1 + 1 + 1 + 1 + 1 + 1, rfl, (HZ.out.done hg hBg (Upd.set4d _ _ _ _ _)).1, by have := hML.out; omega, HM.out, hy5.out, by omega, (HZ.out.done hg hBg (Upd.set4d _ _ _ _ _)).2.1, (HZ.out.done hg hBg (Upd.set4d _ _ _ _ _)).2.2⟩)
            · go_wp2_with fail
              refine (pick_any B g (q3 + 1 + 1 + 1 + 1) _ _ H9.out.sm.rd (by omega) (by omega) (by omega)).mono ?_
              rintro e w8 ⟨v8, rfl, hv8, hr8, hu8⟩
              have H10 : Hid (Se B g (q3 + 1 + 1 + 1 + 1 + 1) w a c L w4.heap.size y w8) := H9.out.step hg hr8 hu8
              have hbx := H10.out.box.all
              have HZ : Hid (Se B g (q3 + 1 + 1 + 1 + 1 + 1) w a c L w4.heap.size ⟨y.k, y.n, y.s, 10 + v8⟩ _) := H10.out.id hg hBg (10 + v8)
              clear hr8 hu8 H9 H10
              go_wp2_with fail
              refine (pick_any B g (q3 + 1 + 1 + 1 + 1 + 1) _ _ HZ.out.sm.rd (by omega) (by omega) (by omega)).mono ?_
              rintro e w9 ⟨v9, rfl, hv9, hr9, hu9⟩
              have HZ2 := HZ.out.step hg hr9 hu9
              clear HZ hr9 hu9
              have HZ : Hid (Se B g (q3 + 1 + 1 + 1 + 1 + 1 + 1) w a c L w4.heap.size ⟨y.k, y.n, y.s, 10 + v8⟩ w9) := HZ2
              clear HZ2
              by_cases hc9 : ¬ v9 = 0
              · have hbx := HZ.out.box.all
                have hrx := HZ.out.sm.res.all
                go_wp2_with fail
                go_region_with (fail)
                all_goals
                  go_wp2_with fail
                  exact bodyPost_ret (v := .tuple #[.slice a L.length c, .agg #[.int .i64 (⟨y.k, y.n, y.s, 10 + v8⟩ : AEnt).k, .int .i64 (⟨y.k, y.n, y.s, 10 + v8⟩ : AEnt).n, .string (⟨y.k, y.n, y.s, 10 + v8⟩ : AEnt).s, .int .i64 (⟨y.k, y.n, y.s, 10 + v8⟩ : AEnt).id]]) (by simp [results, Try.results28, go_sem, hrx]) rfl (SomeP.mk ⟨_, _, L, ⟨y.k, y.n, y.s, 10 + v8⟩, q3 + 1 + 1 + 1 + 1 + 1 + 1, rfl, (HZ.out.done hg hBg (Upd.set4d _ _ _ _ _)).1, by omega, HL.out, hy5.out, by omega, (HZ.out.done hg hBg (Upd.set4d _ _ _ _ _)).2.1, (HZ.out.done hg hBg (Upd.set4d _ _ _ _ _)).2.2⟩)
              · go_wp2_with fail
                refine (pick_any B g (q3 + 1 + 1 + 1 + 1 + 1 + 1) _ _ HZ.out.sm.rd (by omega) (by omega) (by omega)).mono ?_
                rintro e w10 ⟨v10, rfl, hv10, hr10, hu10⟩
                have HZ2 := HZ.out.step hg hr10 hu10
                clear HZ hr10 hu10
                obtain ⟨b', rfl, hb', hth, hents⟩ := HZ2.sm.row.one hl
                have hk1 : v10 + 1 < L.length := by omega
                have hk0 : v10 < L.length := by omega
                have hixA0 : ∀ wx, (Instr.indexAt 23 (.slice (some ⟨b', 0, none⟩) L.length c) (.int .i64 v10)).run Try.prog wx = .ok (.pointer (some ⟨b', v10 * 4, none⟩)) wx := fun wx => run_ix4o _ _ _ _ _ _ _ wx (Or.inl rfl) hk0 Try.underlying23 (Try.sizeOf29 wx)
                obtain ⟨r, hr⟩ : ∃ r, r = v10 + 1 := ⟨_, rfl⟩
                have hri : (1 : Int) + (v10 : Int) = (r : Int) := by omega
                have hri2 : (r : Int) - 1 = (v10 : Int) := by omega
                have hixA : ∀ wx, (Instr.indexAt 23 (.slice (some ⟨b', 0, none⟩) L.length c) (.int .i64 ((r : Int) - 1))).run Try.prog wx = .ok (.pointer (some ⟨b', v10 * 4, none⟩)) wx := fun wx => by
                  rw [hri2]; exact hixA0 wx
                have hixB : ∀ wx, (Instr.indexAt 23 (.slice (some ⟨b', 0, none⟩) L.length c) (.int .i64 r)).run Try.prog wx = .ok (.pointer (some ⟨b', r * 4, none⟩)) wx := fun wx => by
                  exact run_ix4o _ _ _ _ _ _ _ wx (Or.inl rfl) (by omega) Try.underlying23 (Try.sizeOf29 wx)
                obtain ⟨b2, o2, hab2, -, hr2⟩ := hents.at hk0
                cases hab2
                rw [Nat.zero_add] at hr2
                have HM : Hid (∀ d ∈ L.set r L[v10], d.s.size ≤ 5) := fun d hd => by
                  rcases List.mem_or_eq_of_mem_set hd with h | h
                  · exact HL.out d h
                  · rw [h]; exact HL.out _ (List.getElem_mem hk0)
                have HZ3 := fun (y : AEnt) => HZ2.twice hg hBg (k := r) (by omega) y
                have hTh := there4_of hth (k := r) (by omega)
                revert hr2 HM
                generalize L[v10] = y2
                intro hr2 HM
                have hT2 := cells4_of hr2
                have HZ : Hid (Se B g (q3 + 1 + 1 + 1 + 1 + 1 + 1 + 1) w (some ⟨b', 0, none⟩) c (L.set r y2) w4.heap.size ⟨y.k, y.n, y.s, 10 + v8⟩ ((((w10.setCell ⟨b', r * 4, none⟩ (.int .i64 y2.k)).setCell ⟨b', r * 4 + 1, none⟩ (.int .i64 y2.n)).setCell ⟨b', r * 4 + 2, none⟩ (.string y2.s)).setCell ⟨b', r * 4 + 3, none⟩ (.int .i64 y2.id))) := HZ3 y2
                obtain ⟨x0, x1, x2, x3, hTh⟩ := hTh
                have hbx := HZ2.box.all
                clear HZ2 HZ3 hr2 hents hth hr hri2 hb' hixA0
                go_wp2_with fail
                obtain ⟨M, hM⟩ : ∃ M, M = L.set r y2 := ⟨_, rfl⟩
                have hML : Hid (L.length = M.length) := by show L.length = M.length; rw [hM, List.length_set]
                rw [← hM] at HZ HM
                clear hbx hTh hixA hixB hT2
                generalize ((((w10.setCell ⟨b', r * 4, none⟩ (.int .i64 y2.k)).setCell ⟨b', r * 4 + 1, none⟩ (.int .i64 y2.n)).setCell ⟨b', r * 4 + 2, none⟩ (.string y2.s)).setCell ⟨b', r * 4 + 3, none⟩ (.int .i64 y2.id)) = wq at *
                have hbx := HZ.out.box.all
                have hrx := HZ.out.sm.res.all
                go_region_with (fail)
                all_goals
                  go_wp2_with fail
                  exact bodyPost_ret (v := .tuple #[.slice (some ⟨b', 0, none⟩) M.length c, .agg #[.int .i64 (⟨y.k, y.n, y.s, 10 + v8⟩ : AEnt).k, .int .i64 (⟨y.k, y.n, y.s, 10 + v8⟩ : AEnt).n, .string (⟨y.k, y.n, y.s, 10 + v8⟩ : AEnt).s, .int .i64 (⟨y.k, y.n, y.s, 10 + v8⟩ : AEnt).id]]) (by simp [results, Try.results28, go_sem, hrx, hML.out]) rfl (SomeP.mk ⟨_, _, M, ⟨y.k, y.n, y.s, 10 + v8⟩, q3 + 1 + 1 + 1 + 1 + 1 + 1 + 1, rfl, (HZ.out.done hg hBg (Upd.set4d _ _ _ _ _)).1, by have := hML.out; omega, HM.out, hy5.out, by omega, (HZ.out.done hg hBg (Upd.set4d _ _ _ _ _)).2.1, (HZ.out.done hg hBg (Upd.set4d _ _ _ _ _)).2.2⟩)
        · have h1i : ¬ (1 : Int) < L.length := by omega
          go_wp2_with fail
          refine (pick_any B g (q3 + 1) _ _ H5.out.sm.rd (by omega) (by omega) (by omega)).mono ?_
          rintro e w5 ⟨v5, rfl, hv5, hr5, hu5⟩
          have H6 : Hid (Se B g (q3 + 1 + 1) w a c L w4.heap.size ⟨k, n, s, id⟩ w5) := H5.out.step hg hr5 hu5
          clear hr5 hu5 H5
          by_cases hv0 : ¬ 0 < v5
          · have HZ : Hid _ := H6.out
            clear H6
            have hbx := HZ.out.box.all
            have hrx := HZ.out.sm.res.all
            go_wp2_with fail
            go_region_with (fail)
            all_goals
              go_wp2_with fail
              exact bodyPost_ret (v := .tuple #[.slice a L.length c, .agg #[.int .i64 (⟨k, n, s, id⟩ : AEnt).k, .int .i64 (⟨k, n, s, id⟩ : AEnt).n, .string (⟨k, n, s, id⟩ : AEnt).s, .int .i64 (⟨k, n, s, id⟩ : AEnt).id]]) (by simp [results, Try.results28, go_sem, hrx]) rfl (SomeP.mk ⟨_, _, L, ⟨k, n, s, id⟩, q3 + 1 + 1, rfl, (HZ.out.done hg hBg (Upd.set4d _ _ _ _ _)).1, by omega, HL.out, hs, by omega, (HZ.out.done hg hBg (Upd.set4d _ _ _ _ _)).2.1, (HZ.out.done hg hBg (Upd.set4d _ _ _ _ _)).2.2⟩)
          · go_wp2_with fail
            refine (pick_any B g (q3 + 1 + 1) _ _ H6.out.sm.rd (by omega) (by omega) (by omega)).mono ?_
            rintro e w6 ⟨v6, rfl, hv6, hr6, hu6⟩
            have H7 : Hid (Se B g (q3 + 1 + 1 + 1) w a c L w4.heap.size ⟨k, n, s, id⟩ w6) := H6.out.step hg hr6 hu6
            clear hr6 hu6 H6
            have hv6' : v6 < L.length := by omega
            obtain ⟨b', o', hab, hbl, hr⟩ := H7.out.sm.row.same.at hv6'
            have hmem : L[v6] ∈ L := List.getElem_mem hv6'
            have hy5 : Hid (L[v6].s.size ≤ 5) := HL.out _ hmem
            clear hmem
            revert hr hy5
            generalize L[v6] = y
            intro hr hy5
            have hix : ∀ wx, (Instr.indexAt 23 (.slice a L.length c) (.int .i64 v6)).run Try.prog wx = .ok (.pointer (some ⟨b', o' + v6 * 4, none⟩)) wx := fun wx => by
              rw [hab]; exact run_ix4 _ _ _ _ _ _ _ wx hv6' Try.underlying23 (Try.sizeOf29 wx)
            have hT := cells4_of hr
            have hbx := H7.out.box.all
            have H8 := H7.out.put hg hBg y
            clear hab hr hbl H7
            have H8 : Hid _ := H8
            go_wp2_with fail
            refine (pick_any B g (q3 + 1 + 1 + 1) _ _ H8.out.sm.rd (by omega) (by omega) (by omega)).mono ?_
            rintro e w7 ⟨v7, rfl, hv7, hr7, hu7⟩
            have H9 : Hid (Se B g (q3 + 1 + 1 + 1 + 1) w a c L w4.heap.size y w7) := H8.out.step hg hr7 hu7
            clear hr7 hu7 H8 hT hix hbx
            by_cases hc7 : ¬ v7 = 0
            · have HZ : Hid _ := H9.out
              clear H9
              have hbx := HZ.out.box.all
              have hrx := HZ.out.sm.res.all
              go_wp2_with fail
              go_region_with (fail)
              all_goals
                go_wp2_with fail
                exact bodyPost_ret (v := .tuple #[.slice a L.length c, .agg #[.int .i64 y.k, .int .i64 y.n, .string y.s, .int .i64 y.id]]) (by simp [results, Try.results28, go_sem, hrx]) rfl (SomeP.mk ⟨_, _, L, y, q3 + 1 + 1 + 1 + 1, rfl, (HZ.out.done hg hBg (Upd.set4d _ _ _ _ _)).1, by omega, HL.out, hy5.out, by omega, (HZ.out.done hg hBg (Upd.set4d _ _ _ _ _)).2.1, (HZ.out.done hg hBg (Upd.set4d _ _ _ _ _)).2.2⟩)
            · go_wp2_with fail
              refine (pick_any B g (q3 + 1 + 1 + 1 + 1) _ _ H9.out.sm.rd (by omega) (by omega) (by omega)).mono ?_
              rintro e w8 ⟨v8, rfl, hv8, hr8, hu8⟩
              have H10 : Hid (Se B g (q3 + 1 + 1 + 1 + 1 + 1) w a c L w4.heap.size y w8) := H9.out.step hg hr8 hu8
              have hbx := H10.out.box.all
              have HZ : Hid (Se B g (q3 + 1 + 1 + 1 + 1 + 1) w a c L w4.heap.size ⟨y.k, y.n, y.s, 10 + v8⟩ _) := H10.out.id hg hBg (10 + v8)
              clear hr8 hu8 H9 H10
              have hbx := HZ.out.box.all
              have hrx := HZ.out.sm.res.all
              go_wp2_with fail
              go_region_with (fail)
              all_goals
                go_wp2_with fail
                exact bodyPost_ret (v := .tuple #[.slice a L.length c, .agg #[.int .i64 (⟨y.k, y.n, y.s, 10 + v8⟩ : AEnt).k, .int .i64 (⟨y.k, y.n, y.s, 10 + v8⟩ : AEnt).n, .string (⟨y.k, y.n, y.s, 10 + v8⟩ : AEnt).s, .int .i64 (⟨y.k, y.n, y.s, 10 + v8⟩ : AEnt).id]]) (by simp [results, Try.results28, go_sem, hrx]) rfl (SomeP.mk ⟨_, _, L, ⟨y.k, y.n, y.s, 10 + v8⟩, q3 + 1 + 1 + 1 + 1 + 1, rfl, (HZ.out.done hg hBg (Upd.set4d _ _ _ _ _)).1, by omega, HL.out, hy5.out, by omega, (HZ.out.done hg hBg (Upd.set4d _ _ _ _ _)).2.1, (HZ.out.done hg hBg (Upd.set4d _ _ _ _ _)).2.2⟩)
      · have hl0 : L = [] := List.length_eq_zero_iff.1 (by omega)
        subst hl0
        have HZ : Hid _ := H5.out
        clear H5
        have hbx := HZ.out.box.all
        have hrx := HZ.out.sm.res.all
        go_wp2_with fail
        go_region_with (fail)
        all_goals
          go_wp2_with fail
          exact bodyPost_ret (v := .tuple #[.slice a ([] : List AEnt).length c, .agg #[.int .i64 (⟨k, n, s, id⟩ : AEnt).k, .int .i64 (⟨k, n, s, id⟩ : AEnt).n, .string (⟨k, n, s, id⟩ : AEnt).s, .int .i64 (⟨k, n, s, id⟩ : AEnt).id]]) (by simp [results, Try.results28, go_sem, hrx]) rfl (SomeP.mk ⟨_, _, [], ⟨k, n, s, id⟩, q3 + 1, rfl, (HZ.out.done hg hBg (Upd.set4d _ _ _ _ _)).1, by omega, HL.out, hs, by omega, (HZ.out.done hg hBg (Upd.set4d _ _ _ _ _)).2.1, (HZ.out.done hg hBg (Upd.set4d _ _ _ _ _)).2.2⟩)

end Go.Proofs.Ytgjhmpgofmmniaa
