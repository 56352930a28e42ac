/- An object's blocks, put in a row, are the object and bytes 0. -/
import Derived.Test.YteilneoamhnndaaDoorBkCut
import Derived.Test.YteilneoamhnndaaDoorBkJoin
namespace Go.Proofs.YteilneoamhnndaaDoor
open Go.RowKit Go.Extern.Stop Go.Stop Go.Extern

theorem cut_flat {α : Type} (A : List α) (l q : Nat) : ∀ n, ((List.range n).map fun i => (A.drop (offP l q i)).take (cntP l q i)).flatten = A.take (offP l q n) := by
  intro n
  induction n with
  | zero => simp [offP_zero]
  | succ n ih =>
    rw [List.range_succ, List.map_append, List.flatten_append, ih, offP_succ, List.take_add]
    simp
theorem cutL_flat {s b n l q : Nat} (h : PlanOk s b n l q) (P : List Nat) : (cutL s b n l q P).flatten = symL s b P := by
  have := cut_flat (symL s b P) l q n
  rw [h.off, List.take_of_length_le (by rw [symL_length]; exact Nat.le_refl _)] at this
  exact this
theorem symL_flat (s b : Nat) (P : List Nat) : (symL s b P).flatten = (List.range (symT s b * b)).map fun c => P.getD c 0 := splitTo_flat P b _
theorem symL_take {s b : Nat} (hb : 0 < b) (P : List Nat) (hP : P.length = s) : (symL s b P).flatten.take s = P := by
  rw [symL_flat]
  have h := (symT_mul (s := s) hb).1
  apply List.ext_getElem?
  intro i
  rw [List.getElem?_take]
  by_cases hi : i < s
  · rw [if_pos hi, List.getElem?_map, List.getElem?_range (by omega)]
    simp [List.getD_eq_getElem?_getD, List.getElem?_eq_getElem (show i < P.length by omega)]
  · rw [if_neg hi, List.getElem?_eq_none (by omega)]
theorem symL_tail (s b : Nat) (P : List Nat) (hP : P.length = s) : zeroB ((symL s b P).flatten.drop s) = true := by
  rw [symL_flat]
  unfold zeroB
  rw [List.all_eq_true]
  intro x hx
  obtain ⟨i, hi, rfl⟩ := List.getElem_of_mem hx
  simp only [List.getElem_drop, List.getElem_map, List.getElem_range]
  rw [List.getD_eq_getElem?_getD, List.getElem?_eq_none (by omega)]
  rfl
theorem cutF_length {s b n l q : Nat} (h : PlanOk s b n l q) (P : List Nat) {i : Nat} (hi : i < n) : (cutF s b l q P i).length = cntP l q i := by
  have h1 : offP l q (i + 1) ≤ offP l q n := offP_le hi
  rw [offP_succ, h.off] at h1
  unfold cutF
  rw [List.length_take, List.length_drop, symL_length]
  omega
theorem cutF_rows {s b l q : Nat} (P : List Nat) (i : Nat) : ∀ r ∈ cutF s b l q P i, r.length = b := fun r hr => splitTo_mem r (List.mem_of_mem_drop (List.mem_of_mem_take hr))
theorem cut_fit {s b n l q : Nat} (h : PlanOk s b n l q) (P : List Nat) : FitOk b n l q (cutL s b n l q P) := by
  refine ⟨by simp [cutL], fun i hi => ?_⟩
  have e : (cutL s b n l q P).getD i [] = cutF s b l q P i := by simp [cutL, List.getD_eq_getElem?_getD, hi]
  rw [e]
  refine ⟨cutF_length h P hi, fun k hk => ?_⟩
  have : (cutF s b l q P i).getD k [] ∈ cutF s b l q P i := by
    rw [List.getD_eq_getElem?_getD, List.getElem?_eq_getElem hk]
    exact List.getElem_mem hk
  exact cutF_rows P i _ this
theorem cut_join {s b n l q : Nat} (h : PlanOk s b n l q) (P : List Nat) (hP : P.length = s) : JoinOk s b n l q (cutL s b n l q P) ∧ (cutL s b n l q P).flatten.flatten.take s = P := by
  rw [JoinOk, cutL_flat h]
  exact ⟨⟨cut_fit h P, symL_tail s b P hP⟩, symL_take h.b1 P hP⟩
end Go.Proofs.YteilneoamhnndaaDoor
