/- A slice of numbers or of words that came in reads as its list. -/
import Derived.Test.YtgbogglalnafeaaDoorKit
import Derived.Test.YtgbogglalnafeaaDoorWordsMath
import Derived.Test.YtgbogglalnafeaaDoorSl
import Derived.ChangeSlices
import Derived.SizedLaws
namespace Go.Proofs.YtgbogglalnafeaaDoor
open Go.ChangeShapes Go.WideShapes Go.ChangeAt Go.RowKit Go.Deep

section
variable {H : Type} {enc : TypeId × Value → H} {P : Program}
theorem mem_weightsAll {e : TypeId} {x : Nat} : ∀ {ds : List (DataW H)} {d : DataW H}, d ∈ ds → x ∈ d.weights P e → x ∈ DataW.weightsAll P e ds
  | [], _, hd, _ => by simp at hd
  | d' :: ds, d, hd, hx => by
    unfold DataW.weightsAll
    rcases List.mem_cons.1 hd with rfl | hd
    · exact List.mem_append.2 (.inl hx)
    · exact List.mem_append.2 (.inr (mem_weightsAll hd hx))

theorem nums_open {t e : TypeId} {k : IntKind} {v : Value} {d : DataW H} {ps : List MemPlace} {W : World} {base : Nat} (ht : P.underlying t = some (.slice e)) (he : P.underlying e = some (.int k)) (hc : P.cellsOf e = 1)
    (hok : Value.okWide P W .any base t v) (h : DataW.Trod enc P W 0 (fun _ => true) true t v d ps) :
    ∃ zs : List Int, ListAt (Value.int k) W v zs ∧ ∀ z ∈ zs, k.min ≤ z ∧ z ≤ k.max := by
  obtain ⟨a0, len, cap, rfl⟩ := okWide_slice ht hok
  obtain ⟨fuel, hf⟩ := h
  rcases Go.ChangeShapes.open_ints ht he hc hf with ⟨hcs, _⟩ | ⟨a, len', cap', zs, hcs, _, hl, hm, hlen, _, hcell, hwf⟩
  · simp [Value.cells] at hcs
    obtain ⟨rfl, rfl, rfl⟩ := hcs
    exact ⟨[], ListAt.nil _ _, fun z hz => by simp at hz⟩
  · simp [Value.cells] at hcs
    obtain ⟨rfl, rfl, rfl⟩ := hcs
    simp at hlen
    have hll : (zs.take len).length = len := by rw [List.length_take]; omega
    refine ⟨zs.take len, ⟨some a, cap, by rw [hll], by omega, hm, fun hp => ?_⟩, fun z hz => ?_⟩
    · obtain ⟨b, off, spot⟩ := a
      have hspot : spot = none := by simpa [Addr.add] using World.cell?_spot (hcell 0 (by omega))
      subst hspot
      refine ⟨b, off, rfl, fun j hj => ?_⟩
      rw [hll] at hj
      rw [← Go.WideShapes.add_plain, hcell j (by omega)]
      have hjz : j < zs.length := by omega
      simp [hjz]
    · have := hwf z (List.mem_of_mem_take hz)
      simpa [Lit.wf] using this

theorem ints_open {t e : TypeId} {v : Value} {d : DataW H} {ps : List MemPlace} {W : World} {base : Nat} (ht : P.underlying t = some (.slice e)) (he : P.underlying e = some (.int .i64)) (hc : P.cellsOf e = 1)
    (hok : Value.okWide P W .any base t v) (h : DataW.Trod enc P W 0 (fun _ => true) true t v d ps) :
    ∃ l : List Int, ListAt intV W v l ∧ ∀ z ∈ l, -9223372036854775808 ≤ z ∧ z ≤ 9223372036854775807 := by
  obtain ⟨zs, h1, h2⟩ := nums_open ht he hc hok h
  exact ⟨zs, h1, fun z hz => h2 z hz⟩

theorem words_open {t e : TypeId} {v : Value} {d : DataW H} {ps : List MemPlace} {W : World} {base : Nat} (ht : P.underlying t = some (.slice e)) (he : P.underlying e = some (.int .u64)) (hc : P.cellsOf e = 1)
    (hok : Value.okWide P W .any base t v) (h : DataW.Trod enc P W 0 (fun _ => true) true t v d ps) :
    ∃ ws : List Nat, ListAt wordV W v ws ∧ Word ws := by
  obtain ⟨zs, ⟨a, cap, rfl, hcap, hm, hcell⟩, h2⟩ := nums_open ht he hc hok h
  have hb : ∀ z ∈ zs, 0 ≤ z ∧ z ≤ 18446744073709551615 := fun z hz => h2 z hz
  refine ⟨zs.map Int.toNat, ⟨a, cap, by simp, by simpa using hcap, hm, fun hp => ?_⟩, fun x hx => ?_⟩
  · obtain ⟨b, off, rfl, hcc⟩ := hcell (by simpa using hp)
    refine ⟨b, off, rfl, fun j hj => ?_⟩
    have hj' : j < zs.length := by simpa using hj
    have hz := hb _ (List.getElem_mem hj')
    rw [hcc j hj']
    simp [wordV]
    omega
  · obtain ⟨z, hz, rfl⟩ := List.mem_map.1 hx
    have := hb z hz
    omega
end
end Go.Proofs.YtgbogglalnafeaaDoor
