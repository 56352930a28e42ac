/- A slice of geyserlaw13's symbols (a number, bytes each) that came in. -/
import Derived.Test.YtkhdjjcflbdegaaGreatDoorG48
namespace Go.Proofs.YtkhdjjcflbdegaaGreatDoor
open Go.ChangeShapes Go.WideShapes Go.ChangeAt Go.RowKit Go.Deep

def noSymE : Int × List Nat := (0, [])
/-- A slice of them that reads as a list. -/
def SymsIn (w : World) (v : Value) (L : List (Int × List Nat)) : Prop :=
  ∃ a cap, v = .slice a L.length cap ∧ L.length ≤ cap ∧ cap ≤ maxLen ∧ (0 < L.length → ∃ b off, a = some ⟨b, off, none⟩ ∧
    ∀ j, j < L.length → ∃ s, w.cell? ⟨b, off + j * 2, none⟩ = some (.int .i64 (L.getD j noSymE).1) ∧ w.cell? ⟨b, off + j * 2 + 1, none⟩ = some s ∧ ListAt byteV w s (L.getD j noSymE).2)
theorem SymsIn.nil (w : World) : SymsIn w nilS [] := ⟨none, 0, rfl, Nat.le_refl _, Nat.zero_le _, fun h => by simp at h⟩

section
variable {H : Type} {enc : TypeId × Value → H} {P : Program}
theorem syms_openF {t e q0 q1 z1 : TypeId} {f0 f1 : Field} {v : Value} {d : DataW H} {ps : List MemPlace} {W : World} (ht : P.underlying t = some (.slice e)) (he : P.underlying e = some (.struct #[f0, f1])) (hc : P.cellsOf e = 2)
    (ho0 : f0.offset = 0) (ho1 : f1.offset = 1) (ht0 : f0.type = q0) (ht1 : f1.type = q1) (hu0 : P.underlying q0 = some (.int .i64)) (hu1 : P.underlying q1 = some (.slice z1)) (hz1 : P.underlying z1 = some (.int .u8))
    (hq0 : P.cellsOf q0 = 1) (hq1 : P.cellsOf q1 = 1) (hk1 : P.cellsOf z1 = 1)
    (hok : SliceF v) (h : DataW.Trod enc P W 0 (fun _ => true) true t v d ps) :
    ∃ Q : List (Int × List Nat), SymsIn W v Q ∧ (∀ p ∈ Q, Octets p.2) ∧ ∀ bound : Nat, (d.weights P t).all (· ≤ bound) = true → ∀ p ∈ Q, p.2.length * P.bytesOf z1 ≤ bound := by
  obtain ⟨a0, len0, cap0, rfl⟩ := hok
  obtain ⟨fuel, hf⟩ := h
  subst ht0
  subst ht1
  rcases open_slice ht hf with ⟨hcs, _⟩ | ⟨a, len, cap, m, n, D, Pl, hcs, _, hl, hm, hmm, hx, hel⟩
  · simp [Value.cells] at hcs
    obtain ⟨rfl, rfl, rfl⟩ := hcs
    exact ⟨[], SymsIn.nil _, fun p hp => by simp at hp, fun _ _ p hp => by simp at hp⟩
  · simp [Value.cells] at hcs
    obtain ⟨rfl, rfl, rfl⟩ := hcs
    simp only [if_true] at hmm
    subst hmm
    have hspot : 0 < len0 → a.spot = none := fun hp => by
      obtain ⟨cs', h1, h2⟩ := hel 0 (by omega)
      rw [hc] at h1
      obtain ⟨-, hlen, hcell⟩ := World.cells?_some h1
      have h0 := hcell 0 (by omega)
      rw [List.getElem?_eq_getElem (by omega)] at h0
      obtain ⟨b, off, spot⟩ := a
      simpa [Addr.add] using World.cell?_spot h0
    have key : ∀ i, i < len0 → ∃ q : Int × List Nat, (∃ s, W.cell? (a.add (i * 2)) = some (.int .i64 q.1) ∧ W.cell? (a.add (i * 2 + 1)) = some s ∧ ListAt byteV W s q.2) ∧ Octets q.2 ∧
        ∀ bound : Nat, ((D i).weights P e).all (· ≤ bound) = true → q.2.length * P.bytesOf z1 ≤ bound := by
      intro i hi
      obtain ⟨cs', h1, h2⟩ := hel i (by omega)
      rw [hc] at h1
      obtain ⟨-, hlen, hcell⟩ := World.cells?_some h1
      obtain ⟨y0, y1, n', hy, -, g0, g1⟩ := trod_struct2 he h2
      match cs', hlen with
      | [v0, v1], _ =>
        rw [ho0, hq0] at g0
        rw [ho1, hq1] at g1
        have g0' : DataW.trod enc P W 0 (fun _ => true) true n' f0.type [v0] = some y0 := g0
        have g1' : DataW.trod enc P W 0 (fun _ => true) true n' f1.type [v1] = some y1 := g1
        obtain ⟨x, rfl⟩ := fieldInt hu0 g0'
        obtain ⟨s1, t1⟩ := fieldInts hu1 hz1 hk1 g1'
        obtain ⟨l, hl1, hl2, hl3, -⟩ := bytes_openF hu1 hz1 hk1 s1 t1
        have hsp := hspot (by omega)
        have hc0 : W.cell? (a.add (i * 2)) = some (.int .i64 x) := by
          have := hcell 0 (by omega)
          obtain ⟨b, off, spot⟩ := a
          simp only at hsp
          subst hsp
          rw [Go.WideShapes.add_plain, Go.WideShapes.add_plain] at this
          rw [Go.WideShapes.add_plain]
          exact this
        have hc1 : W.cell? (a.add (i * 2 + 1)) = some v1 := by
          have := hcell 1 (by omega)
          obtain ⟨b, off, spot⟩ := a
          simp only at hsp
          subst hsp
          rw [Go.WideShapes.add_plain, Go.WideShapes.add_plain] at this
          rw [Go.WideShapes.add_plain, ← Nat.add_assoc]
          exact this
        refine ⟨(x, l), ⟨v1, hc0, hc1, hl1⟩, hl2, fun bound hw => ?_⟩
        have hD : D i = .agg [y0.1, y1.1] := by
          have := congrArg Prod.fst hy
          simpa using this
        rw [hD, List.all_eq_true] at hw
        have hwt : DataW.weights P e (.agg [y0.1, y1.1]) = y0.1.weights P f0.type ++ (y1.1.weights P f1.type ++ []) := by
          simp [DataW.weights, he, DataW.weightsEach]
        rw [hwt] at hw
        exact hl3 bound (List.all_eq_true.2 fun x hx => hw x (List.mem_append.2 (.inr (List.mem_append.2 (.inl hx)))))
    obtain ⟨F, hF⟩ := choose_lt (α := Int × List Nat) key
    have hget : ∀ j, j < len0 → ((List.range len0).map F).getD j noSymE = F j := fun j hj => by
      rw [List.getD_eq_getElem?_getD, List.getElem?_map, List.getElem?_range hj]; rfl
    refine ⟨(List.range len0).map F, ⟨some a, _, by simp, by simpa using hl, hm, fun hp => ?_⟩, fun p hp => ?_, fun bound hw p hp => ?_⟩
    · have hp0 : 0 < len0 := by simpa using hp
      obtain ⟨b, off, spot⟩ := a
      have hsp : spot = none := hspot hp0
      subst hsp
      refine ⟨b, off, rfl, fun j hj => ?_⟩
      have hj' : j < len0 := by simpa using hj
      obtain ⟨⟨s, c0, c1, l1⟩, -⟩ := hF j hj'
      rw [hget j hj']
      rw [Go.WideShapes.add_plain] at c0 c1
      exact ⟨s, c0, by rw [Nat.add_assoc]; exact c1, l1⟩
    · obtain ⟨i, hi, rfl⟩ := List.mem_map.1 hp
      exact (hF i (List.mem_range.1 hi)).2.1
    · obtain ⟨i, hi, rfl⟩ := List.mem_map.1 hp
      obtain ⟨-, -, h3⟩ := hF i (List.mem_range.1 hi)
      refine h3 bound ?_
      rw [List.all_eq_true] at hw ⊢
      intro x hx'
      refine hw x ?_
      simp only [Prod.mk.injEq] at hx
      rw [hx.1]
      simp only [DataW.weights, ht]
      exact List.mem_cons_of_mem _ (List.mem_append.2 (.inl (mem_weightsAll (List.mem_map.2 ⟨i, hi, rfl⟩) hx')))
end
end Go.Proofs.YtkhdjjcflbdegaaGreatDoor
