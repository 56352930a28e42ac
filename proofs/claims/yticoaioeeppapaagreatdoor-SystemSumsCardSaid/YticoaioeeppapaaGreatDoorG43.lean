import Derived.Test.YticoaioeeppapaaGreatDoorG42
import Derived.Test.YticoaioeeppapaaGreatDoorG14
import Derived.Lib.SmallJoins
import Derived.Deep.Fields
import Derived.Test.YticoaioeeppapaaGreatDoorG01
import Derived.Test.YticoaioeeppapaaGreatDoorG05
import Derived.ChangeSlices
import Derived.SizedLaws
import Derived.Test.YticoaioeeppapaaGreatDoorG08
import Derived.Deep.Matrix
import Derived.Deep.Grids

section
/- Numbers of a block that came in: a struct of five numbers. -/
namespace Go.Proofs.YticoaioeeppapaaGreatDoor
open Go.RowKit Go.Extern.Stop Go.Stop Go.Extern Go.Joins Go.Deep Go.WideShapes Go.ChangeShapes Go.ChangeAt

section
variable {H : Type} {enc : TypeId × Value → H} {P : Program}
theorem par_open {t : TypeId} {f0 f1 f2 f3 f4 : Field} {b0 : Nat} {v : Value} {d : DataW H} {ps : List MemPlace} {W : World} (hs : P.underlying t = some (.struct #[f0, f1, f2, f3, f4])) (hone : oneCellFields P #[f0, f1, f2, f3, f4] = true) (hC : P.cellsOf t = 5)
    (u0 : P.underlying f0.type = some (.int .i64)) (u1 : P.underlying f1.type = some (.int .i64)) (u2 : P.underlying f2.type = some (.int .i64)) (u3 : P.underlying f3.type = some (.int .i64)) (u4 : P.underlying f4.type = some (.int .i64))
    (hv : Value.okWide P W .any b0 t v) (h : DataW.Trod enc P W 0 (fun _ => true) true t v d ps) :
    ∃ a b c e g : Int, v = parV a b c e g ∧ I64 a ∧ I64 b ∧ I64 c ∧ I64 e ∧ I64 g := by
  obtain ⟨cs, rfl, hsz⟩ := okWide_struct hs hv
  obtain ⟨fuel, hf⟩ := h
  obtain ⟨xs, n, _, hx, hl, hlen, hff⟩ := DataW.trod_struct hs hf
  obtain ⟨l⟩ := cs
  have hl5 : l.length = 5 := hsz.trans hC
  match l, hl5 with
  | [c0, c1, c2, c3, c4], _ =>
    match xs, hlen with
    | [y0, y1, y2, y3, y4], _ =>
      obtain ⟨o0, k0⟩ := hone_of hone 0 f0 rfl
      obtain ⟨o1, k1⟩ := hone_of hone 1 f1 rfl
      obtain ⟨o2, k2⟩ := hone_of hone 2 f2 rfl
      obtain ⟨o3, k3⟩ := hone_of hone 3 f3 rfl
      obtain ⟨o4, k4⟩ := hone_of hone 4 f4 rfl
      have g0 : DataW.trod enc P W 0 (fun _ => true) true n f0.type [c0] = some y0 := by simpa [Value.cells, o0, k0] using hff 0 f0 rfl
      have g1 : DataW.trod enc P W 0 (fun _ => true) true n f1.type [c1] = some y1 := by simpa [Value.cells, o1, k1] using hff 1 f1 rfl
      have g2 : DataW.trod enc P W 0 (fun _ => true) true n f2.type [c2] = some y2 := by simpa [Value.cells, o2, k2] using hff 2 f2 rfl
      have g3 : DataW.trod enc P W 0 (fun _ => true) true n f3.type [c3] = some y3 := by simpa [Value.cells, o3, k3] using hff 3 f3 rfl
      have g4 : DataW.trod enc P W 0 (fun _ => true) true n f4.type [c4] = some y4 := by simpa [Value.cells, o4, k4] using hff 4 f4 rfl
      have key : ∀ {u : TypeId} {c : Value} {y : DataW H × List MemPlace}, P.underlying u = some (.int .i64) → DataW.trod enc P W 0 (fun _ => true) true n u [c] = some y → ∃ m : Int, c = .int .i64 m ∧ I64 m := fun {u c y} hu hg => by
        obtain ⟨m, hm, -, hw⟩ := DataW.trod_int hu hg
        exact ⟨m, by simpa using hm, by simpa [Lit.wf, IntKind.min, IntKind.max, IntKind.signed, IntKind.bits] using hw⟩
      obtain ⟨m0, rfl, w0⟩ := key u0 g0
      obtain ⟨m1, rfl, w1⟩ := key u1 g1
      obtain ⟨m2, rfl, w2⟩ := key u2 g2
      obtain ⟨m3, rfl, w3⟩ := key u3 g3
      obtain ⟨m4, rfl, w4⟩ := key u4 g4
      exact ⟨m0, m1, m2, m3, m4, rfl, w0, w1, w2, w3, w4⟩
end
end Go.Proofs.YticoaioeeppapaaGreatDoor
end

section
/- A slice of numbers or of words that came in reads as its list. -/
namespace Go.Proofs.YticoaioeeppapaaGreatDoor
open Go.ChangeShapes Go.WideShapes Go.ChangeAt Go.RowKit Go.Deep

section
variable {H : Type} {enc : TypeId × Value → H} {P : Program}
theorem mem_weightsAll {e : TypeId} {x : Nat} : ∀ {ds : List (DataW H)} {d : DataW H}, d ∈ ds → x ∈ d.weights P e → x ∈ DataW.weightsAll P e ds
  | [], _, hd, _ => by simp at hd
  | d' :: ds, d, hd, hx => by
    unfold DataW.weightsAll
    rcases List.mem_cons.1 hd with rfl | hd
    · exact List.mem_append.2 (.inl hx)
    · exact List.mem_append.2 (.inr (mem_weightsAll hd hx))

theorem nums_open {t e : TypeId} {k : IntKind} {v : Value} {d : DataW H} {ps : List MemPlace} {W : World} {base : Nat} (ht : P.underlying t = some (.slice e)) (he : P.underlying e = some (.int k)) (hc : P.cellsOf e = 1)
    (hok : Value.okWide P W .any base t v) (h : DataW.Trod enc P W 0 (fun _ => true) true t v d ps) :
    ∃ zs : List Int, ListAt (Value.int k) W v zs ∧ ∀ z ∈ zs, k.min ≤ z ∧ z ≤ k.max := by
  obtain ⟨a0, len, cap, rfl⟩ := okWide_slice ht hok
  obtain ⟨fuel, hf⟩ := h
  rcases Go.ChangeShapes.open_ints ht he hc hf with ⟨hcs, _⟩ | ⟨a, len', cap', zs, hcs, _, hl, hm, hlen, _, hcell, hwf⟩
  · simp [Value.cells] at hcs
    obtain ⟨rfl, rfl, rfl⟩ := hcs
    exact ⟨[], ListAt.nil _ _, fun z hz => by simp at hz⟩
  · simp [Value.cells] at hcs
    obtain ⟨rfl, rfl, rfl⟩ := hcs
    simp at hlen
    have hll : (zs.take len).length = len := by rw [List.length_take]; omega
    refine ⟨zs.take len, ⟨some a, cap, by rw [hll], by omega, hm, fun hp => ?_⟩, fun z hz => ?_⟩
    · obtain ⟨b, off, spot⟩ := a
      have hspot : spot = none := by simpa [Addr.add] using World.cell?_spot (hcell 0 (by omega))
      subst hspot
      refine ⟨b, off, rfl, fun j hj => ?_⟩
      rw [hll] at hj
      rw [← Go.WideShapes.add_plain, hcell j (by omega)]
      have hjz : j < zs.length := by omega
      simp [hjz]
    · have := hwf z (List.mem_of_mem_take hz)
      simpa [Lit.wf] using this

theorem ints_open {t e : TypeId} {v : Value} {d : DataW H} {ps : List MemPlace} {W : World} {base : Nat} (ht : P.underlying t = some (.slice e)) (he : P.underlying e = some (.int .i64)) (hc : P.cellsOf e = 1)
    (hok : Value.okWide P W .any base t v) (h : DataW.Trod enc P W 0 (fun _ => true) true t v d ps) :
    ∃ l : List Int, ListAt intV W v l ∧ ∀ z ∈ l, -9223372036854775808 ≤ z ∧ z ≤ 9223372036854775807 := by
  obtain ⟨zs, h1, h2⟩ := nums_open ht he hc hok h
  exact ⟨zs, h1, fun z hz => h2 z hz⟩

theorem words_open {t e : TypeId} {v : Value} {d : DataW H} {ps : List MemPlace} {W : World} {base : Nat} (ht : P.underlying t = some (.slice e)) (he : P.underlying e = some (.int .u64)) (hc : P.cellsOf e = 1)
    (hok : Value.okWide P W .any base t v) (h : DataW.Trod enc P W 0 (fun _ => true) true t v d ps) :
    ∃ ws : List Nat, ListAt wordV W v ws ∧ Word ws := by
  obtain ⟨zs, ⟨a, cap, rfl, hcap, hm, hcell⟩, h2⟩ := nums_open ht he hc hok h
  have hb : ∀ z ∈ zs, 0 ≤ z ∧ z ≤ 18446744073709551615 := fun z hz => h2 z hz
  refine ⟨zs.map Int.toNat, ⟨a, cap, by simp, by simpa using hcap, hm, fun hp => ?_⟩, fun x hx => ?_⟩
  · obtain ⟨b, off, rfl, hcc⟩ := hcell (by simpa using hp)
    refine ⟨b, off, rfl, fun j hj => ?_⟩
    have hj' : j < zs.length := by simpa using hj
    have hz := hb _ (List.getElem_mem hj')
    rw [hcc j hj']
    simp [wordV]
    omega
  · obtain ⟨z, hz, rfl⟩ := List.mem_map.1 hx
    have := hb z hz
    omega
end
end Go.Proofs.YticoaioeeppapaaGreatDoor
end

section
/- A slice of bytes, and a slice of such slices, that came in: what they read as, that no row passes the form's own reach, and what data they are. -/
namespace Go.Proofs.YticoaioeeppapaaGreatDoor
open Go.ChangeShapes Go.WideShapes Go.ChangeAt Go.RowKit Go.Deep

section
variable {H : Type} {enc : TypeId × Value → H} {P : Program}

theorem symbols_open {t e q : TypeId} {v : Value} {d : DataW H} {ps : List MemPlace} {W : World} {base : Nat} (ht : P.underlying t = some (.slice e)) (he : P.underlying e = some (.slice q)) (hq : P.underlying q = some (.int .u8)) (ce : P.cellsOf e = 1) (cq : P.cellsOf q = 1)
    (hok : Value.okWide P W .any base t v) (h : DataW.Trod enc P W 0 (fun _ => true) true t v d ps) :
    ∃ L : List (List Nat), MatAt byteV W v L ∧ (∀ r ∈ L, Octets r) ∧ ∀ bound : Nat, (d.weights P t).all (· ≤ bound) = true → L.length * P.bytesOf e ≤ bound ∧ ∀ r ∈ L, r.length * P.bytesOf q ≤ bound := by
  obtain ⟨a0, len0, cap0, rfl⟩ := okWide_slice ht hok
  obtain ⟨fuel, hf⟩ := h
  rcases open_int_rows ht he hq ce cq hf with ⟨hcs, _⟩ | ⟨a, len, cap, A, Ls, Cs, Z, hcs, _, hl, hm, hx, hrow⟩
  · simp [Value.cells] at hcs
    obtain ⟨rfl, rfl, rfl⟩ := hcs
    exact ⟨[], MatAt.nil _ _, fun r hr => by simp at hr, fun _ _ => ⟨by simp, fun r hr => by simp at hr⟩⟩
  · simp [Value.cells] at hcs
    obtain ⟨rfl, rfl, rfl⟩ := hcs
    have hb : ∀ r, r < cap0 → ∀ z ∈ Z r, 0 ≤ z ∧ z ≤ 255 := fun r hr z hz => by
      have := (hrow r hr).2.2.2.2.1 z hz
      have h2 : IntKind.u8.min ≤ z ∧ z ≤ IntKind.u8.max := by simpa [Lit.wf] using this
      exact h2
    have hlr : ∀ r, r < len0 → (((Z r).take (Ls r)).map Int.toNat).length = Ls r := fun r hr => by
      obtain ⟨_, h1, _, h3, _⟩ := hrow r (by omega)
      rw [List.length_map, List.length_take]; omega
    refine ⟨(List.range len0).map fun r => ((Z r).take (Ls r)).map Int.toNat, ⟨(List.range len0).map fun r => Value.slice (A r) (Ls r) (Cs r), ?_, by simp, fun i => ?_⟩, fun r hr => ?_, fun bound hw => ?_⟩
    · refine ⟨some a, cap0, by simp, by simpa using hl, hm, fun hp => ?_⟩
      have hp0 : 0 < len0 := by simpa using hp
      obtain ⟨b, off, spot⟩ := a
      have hspot : spot = none := by simpa [Addr.add] using World.cell?_spot (hrow 0 (by omega)).1
      subst hspot
      refine ⟨b, off, rfl, fun j hj => ?_⟩
      have hj' : j < len0 := by simpa using hj
      rw [← Go.WideShapes.add_plain, (hrow j (by omega)).1]
      simp
    · by_cases hi : i < len0
      · obtain ⟨h0, h1, h2, h3, h4, h5, h6⟩ := hrow i (by omega)
        have e1 : ((List.range len0).map fun r => Value.slice (A r) (Ls r) (Cs r)).getD i nilS = .slice (A i) (Ls i) (Cs i) := by simp [hi]
        have e2 : ((List.range len0).map fun r => ((Z r).take (Ls r)).map Int.toNat).getD i [] = ((Z i).take (Ls i)).map Int.toNat := by simp [hi]
        rw [e1, e2]
        refine ⟨A i, Cs i, by rw [hlr i hi], by rw [hlr i hi]; exact h1, h2, fun hp => ?_⟩
        rw [hlr i hi] at hp
        cases hA : A i with
        | none => have := h5 hA; omega
        | some a' =>
          obtain ⟨_, hc⟩ := h6 a' hA
          obtain ⟨b, off, spot⟩ := a'
          have hspot : spot = none := by simpa [Addr.add] using World.cell?_spot (hc 0 (by omega))
          subst hspot
          refine ⟨b, off, rfl, fun j hj => ?_⟩
          rw [hlr i hi] at hj
          have hjz : j < (Z i).length := by omega
          rw [← Go.WideShapes.add_plain, hc j (by omega)]
          have hz := hb i (by omega) _ (List.getElem_mem hjz)
          simp [byteV, hjz]
          omega
      · rw [List.getD_eq_getElem?_getD, List.getElem?_eq_none (by simp; omega), List.getD_eq_getElem?_getD, List.getElem?_eq_none (by simp; omega)]
        exact ListAt.nil _ _
    · obtain ⟨i, hi, rfl⟩ := List.mem_map.1 hr
      have hi' := List.mem_range.1 hi
      intro x hx'
      obtain ⟨z, hz, rfl⟩ := List.mem_map.1 hx'
      have := hb i (by omega) z (List.mem_of_mem_take hz)
      omega
    · simp only [Prod.mk.injEq] at hx
      obtain ⟨rfl, rfl⟩ := hx
      rw [List.all_eq_true] at hw
      have hw' : ∀ x, x ∈ DataW.weights P t (.slice ((List.range len0).map fun r => intRow (H := H) .u8 (A r) (Ls r) (Z r)) ((List.range (cap0 - len0)).map fun j => intRow (H := H) .u8 (A (len0 + j)) (Ls (len0 + j)) (Z (len0 + j)))) → x ≤ bound := fun x hx => by simpa using hw x hx
      constructor
      · have := hw' ((len0 + (cap0 - len0)) * P.bytesOf e) (by simp [DataW.weights, ht])
        have h2 : len0 * P.bytesOf e ≤ (len0 + (cap0 - len0)) * P.bytesOf e := Nat.mul_le_mul_right _ (by omega)
        simpa using Nat.le_trans h2 this
      · intro r hr
        obtain ⟨i, hi, rfl⟩ := List.mem_map.1 hr
        have hi' := List.mem_range.1 hi
        rw [hlr i hi']
        obtain ⟨h0, h1, h2, h3, h4, h5, h6⟩ := hrow i (by omega)
        cases hA : A i with
        | none =>
          have := h5 hA
          have : Ls i = 0 := by omega
          rw [this]; simp
        | some a' =>
          have hin : Cs i * P.bytesOf q ∈ DataW.weights P e (intRow (H := H) .u8 (A i) (Ls i) (Z i)) := by
            rw [hA]
            simp only [intRow, DataW.weights, he]
            refine List.mem_cons.2 (.inl ?_)
            congr 1
            simp [lits, List.length_take, List.length_drop]
            omega
          have := hw' (Cs i * P.bytesOf q) (by
            simp only [DataW.weights, ht]
            exact List.mem_cons_of_mem _ (List.mem_append.2 (.inl (mem_weightsAll (List.mem_map.2 ⟨i, hi, rfl⟩) hin))))
          exact Nat.le_trans (Nat.mul_le_mul_right _ h1) this

theorem bytes_open {t e : TypeId} {v : Value} {d : DataW H} {ps : List MemPlace} {W : World} {base : Nat} (ht : P.underlying t = some (.slice e)) (he : P.underlying e = some (.int .u8)) (hc : P.cellsOf e = 1)
    (hok : Value.okWide P W .any base t v) (h : DataW.Trod enc P W 0 (fun _ => true) true t v d ps) :
    ∃ l : List Nat, ListAt byteV W v l ∧ Octets l ∧ (∀ bound : Nat, (d.weights P t).all (· ≤ bound) = true → l.length * P.bytesOf e ≤ bound) ∧ (l.length = 0 ∨ ∃ zs sp, d = .slice (lits .u8 zs) sp ∧ zs.length = l.length) := by
  obtain ⟨a0, len, cap, rfl⟩ := okWide_slice ht hok
  obtain ⟨fuel, hf⟩ := h
  rcases Go.ChangeShapes.open_ints ht he hc hf with ⟨hcs, _⟩ | ⟨a, len', cap', zs, hcs, _, hl, hm, hlen, hx, hcell, hwf⟩
  · simp [Value.cells] at hcs
    obtain ⟨rfl, rfl, rfl⟩ := hcs
    exact ⟨[], ListAt.nil _ _, fun z hz => by simp at hz, fun _ _ => by simp, .inl rfl⟩
  · simp [Value.cells] at hcs
    obtain ⟨rfl, rfl, rfl⟩ := hcs
    simp at hlen
    have hll : (zs.take len).length = len := by rw [List.length_take]; omega
    have hb : ∀ z ∈ zs.take len, 0 ≤ z ∧ z ≤ 255 := fun z hz => by
      have h1 := hwf z (List.mem_of_mem_take hz)
      have h2 : IntKind.u8.min ≤ z ∧ z ≤ IntKind.u8.max := by simpa [Lit.wf] using h1
      exact h2
    simp only [Prod.mk.injEq] at hx
    obtain ⟨rfl, rfl⟩ := hx
    refine ⟨(zs.take len).map Int.toNat, ⟨some a, cap, by rw [List.length_map, hll], by rw [List.length_map, hll]; exact hl, hm, fun hp => ?_⟩, fun x hx => ?_, fun bound hw => ?_, .inr ⟨zs.take len, _, rfl, by rw [List.length_map]⟩⟩
    · obtain ⟨b, off, spot⟩ := a
      have hp' : 0 < len := by rw [List.length_map, hll] at hp; exact hp
      have hspot : spot = none := by simpa [Addr.add] using World.cell?_spot (hcell 0 (by omega))
      subst hspot
      refine ⟨b, off, rfl, fun j hj => ?_⟩
      rw [List.length_map, hll] at hj
      have hjz : j < zs.length := by omega
      rw [← Go.WideShapes.add_plain, hcell j (by omega)]
      have hz := hb zs[j] (by rw [List.mem_take_iff_getElem]; exact ⟨j, by omega, rfl⟩)
      simp [byteV, hjz]
      omega
    · obtain ⟨z, hz, rfl⟩ := List.mem_map.1 hx
      have := hb z hz
      omega
    · rw [List.all_eq_true] at hw
      have hin : (len + (zs.drop len).length) * P.bytesOf e ∈ DataW.weights P t (.slice (lits (H := H) .u8 (zs.take len)) (lits .u8 (zs.drop len))) := by
        simp only [DataW.weights, ht]
        refine List.mem_cons.2 (.inl ?_)
        congr 1
        simp [lits, List.length_take, List.length_drop]
        omega
      have h1 : (len + (zs.drop len).length) * P.bytesOf e ≤ bound := by simpa using hw _ hin
      have h2 : len * P.bytesOf e ≤ (len + (zs.drop len).length) * P.bytesOf e := Nat.mul_le_mul_right _ (by omega)
      rw [List.length_map, hll]
      exact Nat.le_trans h2 h1
end
end Go.Proofs.YticoaioeeppapaaGreatDoor
end
