/- An entry put in: when it is right. -/
import Derived.Test.YtobblnlefhkanaaIxJ4
namespace Go.Proofs.Ytobblnlefhkanaa
open Go.RowKit

theorem ins_get (M : List AEnt) (x : AEnt) (j : Nat) (hp : posE M x ≤ M.length) : (insE M x)[j]? = if j < posE M x then M[j]? else if j = posE M x then some x else M[j - 1]? := by
  unfold insE
  have hl : (M.take (posE M x)).length = posE M x := by rw [List.length_take, Nat.min_eq_left hp]
  by_cases h1 : j < posE M x
  · rw [if_pos h1, List.getElem?_append_left (by omega), List.getElem?_take, if_pos h1]
  · rw [if_neg h1, List.getElem?_append_right (by omega), hl]
    by_cases h2 : j = posE M x
    · rw [if_pos h2, h2, Nat.sub_self]; rfl
    · rw [if_neg h2, show j - posE M x = (j - posE M x - 1) + 1 by omega, List.getElem?_cons_succ, List.getElem?_drop]
      congr 1
      omega

theorem ins_asc {M : List AEnt} (hA : Asc M) (x : AEnt) : ascB (insE M x) = !(thereE M x) := by
  obtain ⟨hp, hlo, hhi⟩ := isAt_pos hA x
  cases hT : thereE M x
  · refine (ascB_iff _).2 fun i c d hc hd => ?_
    rw [ins_get M x _ hp] at hc hd
    by_cases h1 : i + 1 < posE M x
    · rw [if_pos (by omega)] at hc
      rw [if_pos h1] at hd
      exact hA i c d hc hd
    · rw [if_neg h1] at hd
      by_cases h2 : i + 1 = posE M x
      · rw [if_pos (by omega)] at hc
        rw [if_pos h2] at hd
        cases hd
        exact hlo i c (by omega) hc
      · rw [if_neg h2] at hd
        rw [if_neg (by omega)] at hc
        by_cases h3 : i = posE M x
        · rw [if_pos h3] at hc
          cases hc
          rw [show i + 1 - 1 = posE M x by omega] at hd
          cases hl : lessE x d
          · have he := lessE_tri x d hl (hhi _ d (Nat.le_refl _) hd)
            rw [← he] at hd
            rw [(thereE_iff x).2 hd] at hT
            cases hT
          · rfl
        · rw [if_neg h3] at hc
          rw [show i + 1 - 1 = i - 1 + 1 by omega] at hd
          exact hA (i - 1) c d hc hd
  · have hx := (thereE_iff x).1 hT
    cases hb : ascB (insE M x)
    · rfl
    · have h := (ascB_iff _).1 hb (posE M x) x x (by rw [ins_get M x _ hp, if_neg (by omega), if_pos rfl]) (by rw [ins_get M x _ hp, if_neg (by omega), if_neg (by omega)]; exact hx)
      rw [lessE_irr] at h
      cases h

theorem ins_len (M : List AEnt) (x : AEnt) : (insE M x).length = M.length + 1 := by
  unfold insE
  have h := congrArg List.length (List.take_append_drop (posE M x) M)
  simp only [List.length_append, List.length_cons] at *
  omega
theorem ins_all (M : List AEnt) (x : AEnt) : (insE M x).all AEnt.ok = (x.ok && M.all AEnt.ok) := by
  unfold insE
  rw [List.all_append, List.all_cons]
  have h := congrArg (fun l => l.all AEnt.ok) (List.take_append_drop (posE M x) M)
  simp only [List.all_append] at h
  rw [← h]
  cases (M.take (posE M x)).all AEnt.ok <;> cases x.ok <;> rfl

theorem ins_ok {M : List AEnt} (h : indexOk M = true) (x : AEnt) : indexOk (insE M x) = (x.ok && (decide (M.length < 16) && !(thereE M x))) := by
  have hA := asc_of h
  simp only [indexOk, Bool.and_eq_true, decide_eq_true_eq] at h
  unfold indexOk
  rw [ins_asc hA, ins_all, ins_len, h.2.1, Bool.and_true]
  have : decide (M.length + 1 ≤ 16) = decide (M.length < 16) := rfl
  rw [this]
  cases x.ok <;> cases decide (M.length < 16) <;> rfl

/-- What IndexPut answers. -/
def putOk (L : List AEnt) (x : AEnt) : Bool := indexOk L && (x.ok && (decide (L.length < 16) && !(thereE L x)))
def putL (L : List AEnt) (x : AEnt) : List AEnt := if putOk L x then insE L x else okE L
theorem putL_len (L : List AEnt) (x : AEnt) : (putL L x).length ≤ 17 := by
  unfold putL
  cases h : putOk L x
  · have := okE_len L
    simp; omega
  · simp only [putOk, Bool.and_eq_true, decide_eq_true_eq] at h
    rw [if_pos rfl, ins_len]
    omega

end Go.Proofs.Ytobblnlefhkanaa
