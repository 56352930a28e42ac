/- The document's functions of layer 17: Chunks, Check, Esis. -/
import Derived.Test.YtlhpkfonffijfaaStLvl
import Derived.Test.YtlhpkfonffijfaaPkIn
namespace Go.Proofs.Ytlhpkfonffijfaa
open Go.RowKit Go.Extern.Stop Go.Stop Go.Extern

theorem cut_ints {w : World} {v : Value} {l : List Nat} (h : ListAt cutV w v l) : ListAt intV w v (l.map fun c : Nat => (c : Int)) := by
  obtain ⟨a, cap, rfl, h1, h2, h3⟩ := h
  refine ⟨a, cap, by rw [List.length_map], by rw [List.length_map]; exact h1, h2, fun hp => ?_⟩
  obtain ⟨b, off, rfl, hc⟩ := h3 (by simpa using hp)
  refine ⟨b, off, rfl, fun j hj => ?_⟩
  rw [hc j (by simpa using hj)]
  simp [cutV, intV]
theorem cut_mem {l : List Nat} {c : Nat} : decide ((c : Int) ∈ l.map fun c : Nat => (c : Int)) = decide (c ∈ l) := by
  apply decide_eq_decide.2
  rw [List.mem_map]
  constructor
  · rintro ⟨a, ha, e⟩
    obtain rfl : a = c := by omega
    exact ha
  · exact fun h => ⟨c, h, rfl⟩
/-- what is not among others, as far as it has been gone over -/
def notTo (F L : List Nat) (i : Nat) : List Nat := (F.take i).filter fun c => decide (c ∉ L)
theorem notTo_one {F L : List Nat} {i : Nat} (hi : i < F.length) (h : F.getD i 0 ∉ L) : notTo F L (i + 1) = notTo F L i ++ [F.getD i 0] := by
  rw [List.getD_eq_getElem?_getD, List.getElem?_eq_getElem hi] at h ⊢
  simp only [Option.getD_some] at h ⊢
  unfold notTo
  rw [List.take_add_one, List.getElem?_eq_getElem hi, List.filter_append]
  simp [h]
theorem notTo_none {F L : List Nat} {i : Nat} (hi : i < F.length) (h : F.getD i 0 ∈ L) : notTo F L (i + 1) = notTo F L i := by
  rw [List.getD_eq_getElem?_getD, List.getElem?_eq_getElem hi] at h
  simp only [Option.getD_some] at h
  unfold notTo
  rw [List.take_add_one, List.getElem?_eq_getElem hi, List.filter_append]
  simp [h]
theorem notTo_length (F L : List Nat) (i : Nat) : (notTo F L i).length ≤ i := by
  have h1 := List.length_filter_le (fun c => decide (c ∉ L)) (F.take i)
  have h2 := List.length_take_le i F
  unfold notTo
  omega

end Go.Proofs.Ytlhpkfonffijfaa
