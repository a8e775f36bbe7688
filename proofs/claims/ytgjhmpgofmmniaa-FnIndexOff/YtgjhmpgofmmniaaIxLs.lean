/- Facts on lists in order: what is put in and taken out; what has one value. -/
import Derived.Test.YtgjhmpgofmmniaaIxR1
import Derived.Test.YtgjhmpgofmmniaaIxU0
namespace Go.Proofs.Ytgjhmpgofmmniaa
open Go.RowKit

theorem ins_at (L : List AEnt) (x : AEnt) (hA : Asc L) : (insE L x)[posE L x]? = some x := by
  rw [ins_get L x _ (isAt_pos hA x).1, if_neg (by omega), if_pos rfl]

/-- What is put in and taken out again is as it was. -/
theorem off_ins {L : List AEnt} (hA : Asc L) {x : AEnt} (hT : thereE L x = false) : offE (insE L x) x = L := by
  have hp := (isAt_pos hA x).1
  have hI : Asc (insE L x) := (ascB_iff _).1 (by rw [ins_asc hA, hT]; rfl)
  have hx := ins_at L x hA
  rw [offE, at_there hI hx, if_pos rfl, ← at_pos hI hx]
  have hl : (L.take (posE L x)).length = posE L x := by rw [List.length_take, Nat.min_eq_left hp]
  have h1 : (insE L x).take (posE L x) = L.take (posE L x) := by
    unfold insE
    rw [List.take_append_of_le_length (by omega), List.take_of_length_le (by omega)]
  have h2 : (insE L x).drop (posE L x + 1) = L.drop (posE L x) := by
    unfold insE
    rw [List.drop_append, List.drop_of_length_le (by omega), List.nil_append, hl, show posE L x + 1 - posE L x = 1 by omega]
    rfl
  rw [h1, h2, List.take_append_drop]

/-- What is taken out and put in again is as it was. -/
theorem ins_off {L : List AEnt} (hA : Asc L) {x : AEnt} (hT : thereE L x = true) : insE (offE L x) x = L := by
  have hx := (thereE_iff x).1 hT
  have hp : posE L x < L.length := (List.getElem?_eq_some_iff.1 hx).1
  have hl : (L.take (posE L x)).length = posE L x := by rw [List.length_take]; omega
  have hO : offE L x = L.take (posE L x) ++ L.drop (posE L x + 1) := by rw [offE, hT, if_pos rfl]
  have hq : posE (offE L x) x = posE L x := by
    rw [hO]
    refine tw_len (p := fun c => lessE c x) _ _ (by simp; omega) (fun t c ht hc => ?_) (fun c hc => ?_)
    · rw [List.getElem?_append_left (by omega), List.getElem?_take, if_pos ht] at hc
      exact hA.lt ht hc hx
    · rw [List.getElem?_append_right (by omega), hl, Nat.sub_self, List.getElem?_drop] at hc
      exact lessE_asym _ _ (hA.lt (by omega) hx hc)
  unfold insE
  rw [hq, hO, List.take_append_of_le_length (by omega), List.take_of_length_le (by omega), List.drop_append, List.drop_of_length_le (by omega), List.nil_append, hl, Nat.sub_self, List.drop_zero]
  have hd : x :: L.drop (posE L x + 1) = L.drop (posE L x) := by
    rw [List.drop_eq_getElem_cons hp]
    congr 1
    rw [List.getElem?_eq_getElem hp] at hx
    exact (Option.some.inj hx).symm
  rw [hd, List.take_append_drop]

/-- By what is put in the entries of its value grow by one. -/
theorem span_ins (L : List AEnt) (x : AEnt) : (spanIn x x (insE L x)).length = (spanIn x x L).length + 1 := by
  unfold spanIn insE
  have h := congrArg (fun l => (l.filter (inSpan x x)).length) (List.take_append_drop (posE L x) L)
  simp only [List.filter_append, List.length_append] at h
  have hx : inSpan x x x = true := by rw [inSpan_self, eqV_refl]
  simp only [List.length_map, List.filter_append, List.length_append, List.filter_cons, hx, if_true, List.length_cons]
  omega

/-- Of the entries of x's value one alone has x's Id. -/
theorem ids_one {M : List AEnt} (hA : Asc M) {x : AEnt} (hx : M[posE M x]? = some x) : ((spanIn x x M).filter fun i => decide (i = x.id)).length = 1 := by
  have hp : posE M x < M.length := (List.getElem?_eq_some_iff.1 hx).1
  have hM : M = M.take (posE M x) ++ x :: M.drop (posE M x + 1) := by
    have hd : x :: M.drop (posE M x + 1) = M.drop (posE M x) := by
      rw [List.drop_eq_getElem_cons hp]
      congr 1
      rw [List.getElem?_eq_getElem hp] at hx
      exact (Option.some.inj hx).symm
    rw [hd, List.take_append_drop]
  have hl : (M.take (posE M x)).length = posE M x := by rw [List.length_take]; omega
  unfold spanIn
  rw [List.filter_map, List.length_map, List.filter_filter]
  have hq : (fun c : AEnt => ((fun i => decide (i = x.id)) ∘ AEnt.id) c && inSpan x x c) = fun c => eqE c x := by
    funext c
    rw [inSpan_self]
    unfold eqE
    show (decide (c.id = x.id) && eqV c x) = _
    rw [Bool.and_comm]
    rfl
  rw [hq]
  have h1 : (M.take (posE M x)).filter (fun c => eqE c x) = [] := by
    rw [List.filter_eq_nil_iff]
    intro c hc
    obtain ⟨t, ht, rfl⟩ := List.mem_iff_getElem.1 hc
    have hlt : lessE (M.take (posE M x))[t] x = true := by
      refine hA.lt (i := t) (j := posE M x) (by omega) ?_ hx
      rw [List.getElem_take, List.getElem?_eq_getElem (by omega)]
    intro he
    rw [eqE_ext he, lessE_irr] at hlt
    cases hlt
  have h2 : (M.drop (posE M x + 1)).filter (fun c => eqE c x) = [] := by
    rw [List.filter_eq_nil_iff]
    intro c hc
    obtain ⟨t, ht, rfl⟩ := List.mem_iff_getElem.1 hc
    rw [List.length_drop] at ht
    have hlt : lessE x (M.drop (posE M x + 1))[t] = true := by
      refine hA.lt (i := posE M x) (j := posE M x + 1 + t) (by omega) hx ?_
      rw [List.getElem_drop, List.getElem?_eq_getElem (by omega)]
    intro he
    rw [eqE_ext he, lessE_irr] at hlt
    cases hlt
  generalize M.drop (posE M x + 1) = B at h2 hM
  generalize M.take (posE M x) = A at h1 hM
  rw [hM, List.filter_append, List.filter_cons, h1, h2, eqE_refl]
  rfl

end Go.Proofs.Ytgjhmpgofmmniaa
