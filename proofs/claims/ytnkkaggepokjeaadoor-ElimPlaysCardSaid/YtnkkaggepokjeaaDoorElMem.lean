/- Package elim: a system in memory. -/
import Derived.Test.YtnkkaggepokjeaaDoorElSt
import Derived.Test.YtnkkaggepokjeaaDoorMat
namespace Go.Proofs.YtnkkaggepokjeaaDoor
open Go.RowKit Go.Extern.Stop Go.Stop Go.Extern

theorem cell_of_heap {w : World} {b j : Nat} {cur : Array Value} {t : TypeId} {z : Nat × Nat} {u : Value} (h : w.heap[b]? = some (.cells cur t z)) (hj : cur[j]? = some u) : w.cell? ⟨b, j, none⟩ = some u := by
  unfold World.cell?
  rw [show w.heap[(⟨b, j, none⟩ : Addr).block]? = _ from h]
  simpa using hj
theorem frozen_of_heap {w : World} {b j : Nat} {cur : Array Value} {t : TypeId} (h : w.heap[b]? = some (.cells cur t (0, 0))) : w.frozen? ⟨b, j, none⟩ = false := by
  unfold World.frozen?
  rw [show w.heap[(⟨b, j, none⟩ : Addr).block]? = _ from h]
  simp
theorem heap_setCell_at {w : World} {b j : Nat} {cur : Array Value} {t : TypeId} {z : Nat × Nat} {u : Value} (h : w.heap[b]? = some (.cells cur t z)) : (w.setCell ⟨b, j, none⟩ u).heap[b]? = some (.cells (cur.setIfInBounds j u) t z) := by
  simp only [World.setCell, Array.getElem?_modify]
  simp [h]

/-- A row of the call's own, at any age. -/
abbrev OwnRow (f : Nat → Value) (te : TypeId) (w : World) (v : Value) (n : Nat) (l : List Nat) : Prop := w.ownsRow 0 te 1 v n (l.map f)

def sysCells (n size kb : Nat) (r : Nat) (cl : Bool) : Array Value := #[.int .i64 (n : Int), .int .i64 (size : Int), .slice (some ⟨kb, 0, none⟩) n n, .int .i64 (r : Int), .bool cl]

/-- What lies at a place of the kept ones. -/
def PlaceAt (w : World) (n size c : Nat) (rv sv : Value) : Option Eqn → Prop
  | none => rv = nilS ∧ sv = nilS
  | some q => OwnRow wordV 47 w rv (kOf n) q.1 ∧ OwnRow byteV 5 w sv size q.2 ∧ EqOk n size q ∧ Lead (bitW q.1) c

/-- A system: its own block, that of the kept ones, and their rows. -/
structure SysM (w : World) (b kb n size : Nat) (f : Nat → Option Eqn) (rv sv : Nat → Value) (cl : Bool) : Prop where
  obj : w.heap[b]? = some (.cells (sysCells n size kb (cntF f n) cl) 74 (0, 0))
  kobj : ∃ cur, w.heap[kb]? = some (.cells cur 82 (0, 0))
  kcell : ∀ c, c < n → w.cell? ⟨kb, c * 2, none⟩ = some (rv c) ∧ w.cell? ⟨kb, c * 2 + 1, none⟩ = some (sv c)
  place : ∀ c, c < n → PlaceAt w n size c (rv c) (sv c) (f c)
  num : 1 ≤ n ∧ n ≤ 4096 ∧ 1 ≤ size ∧ size ≤ 64

section
variable {w w' : World} {b kb n size : Nat} {f : Nat → Option Eqn} {rv sv : Nat → Value} {cl : Bool}

theorem SysM.lt (h : SysM w b kb n size f rv sv cl) : b < w.heap.size := (Array.getElem?_eq_some_iff.1 h.obj).1
theorem SysM.klt (h : SysM w b kb n size f rv sv cl) : kb < w.heap.size := by obtain ⟨cur, hc⟩ := h.kobj; exact (Array.getElem?_eq_some_iff.1 hc).1
theorem SysM.ne (h : SysM w b kb n size f rv sv cl) : b ≠ kb := fun e => by
  obtain ⟨cur, hc⟩ := h.kobj
  have := h.obj
  rw [e, hc] at this
  simp at this
theorem SysM.cells (h : SysM w b kb n size f rv sv cl) : w.cell? ⟨b, 0, none⟩ = some (.int .i64 (n : Int)) ∧ w.cell? ⟨b, 1, none⟩ = some (.int .i64 (size : Int)) ∧ w.cell? ⟨b, 2, none⟩ = some (.slice (some ⟨kb, 0, none⟩) n n) ∧
    w.cell? ⟨b, 3, none⟩ = some (.int .i64 (cntF f n : Int)) ∧ w.cell? ⟨b, 4, none⟩ = some (.bool cl) :=
  ⟨cell_of_heap h.obj rfl, cell_of_heap h.obj rfl, cell_of_heap h.obj rfl, cell_of_heap h.obj rfl, cell_of_heap h.obj rfl⟩

theorem own_same {e : TypeId} {v : Value} {k base : Nat} {xs : List Value} (h : w.ownsRow base e 1 v k xs) (hs : ∀ (g : Nat) (cur : Array Value), w.heap[g]? = some (Obj.cells cur e (0, 0)) → w'.heap[g]? = w.heap[g]?) : w'.ownsRow base e 1 v k xs := by
  refine ⟨h.1, ?_⟩
  rcases h.2 with h1 | ⟨g, cap, cur, h1, h2, h3, h4⟩
  · exact .inl h1
  · exact .inr ⟨g, cap, cur, h1, h2, by rw [hs g cur h3]; exact h3, h4⟩

theorem own_set {e : TypeId} {v : Value} {k base : Nat} {xs : List Value} (h : w.ownsRow base e 1 v k xs) {g : Nat} {cur : Array Value} {t : TypeId} {z : Nat × Nat} (hg : w.heap[g]? = some (Obj.cells cur t z)) (hne : t ≠ e) (j : Nat) (u : Value) : (w.setCell ⟨g, j, none⟩ u).ownsRow base e 1 v k xs :=
  own_same h fun g' cur' hg' => Below.heap_setCell _ _ _ _ (by
    intro e1
    rw [show g' = g from e1, hg] at hg'
    simp at hg'
    exact hne hg'.2.1)

/-- A system that has not been touched. -/
theorem SysM.same (h : SysM w b kb n size f rv sv cl) (hb : w'.heap[b]? = w.heap[b]?) (hk : w'.heap[kb]? = w.heap[kb]?)
    (hs : ∀ (g : Nat) (e : TypeId) (cur : Array Value), e = 47 ∨ e = 5 → w.heap[g]? = some (Obj.cells cur e (0, 0)) → w'.heap[g]? = w.heap[g]?) : SysM w' b kb n size f rv sv cl := by
  refine ⟨by rw [hb]; exact h.obj, by rw [hk]; exact h.kobj, fun c hc => ?_, fun c hc => ?_, h.num⟩
  · obtain ⟨h1, h2⟩ := h.kcell c hc
    exact ⟨(World.cell?_of_block (w := w) (a := ⟨kb, c * 2, none⟩) hk).trans h1, (World.cell?_of_block (w := w) (a := ⟨kb, c * 2 + 1, none⟩) hk).trans h2⟩
  · have hp := h.place c hc
    cases hf : f c with
    | none => rw [hf] at hp; exact hp
    | some q =>
      rw [hf] at hp
      exact ⟨own_same hp.1 fun g cur hg => hs g _ cur (.inl rfl) hg, own_same hp.2.1 fun g cur hg => hs g _ cur (.inr rfl) hg, hp.2.2⟩

theorem SysM.mono (h : SysM w b kb n size f rv sv cl) (hb : Below w.heap.size w w') : SysM w' b kb n size f rv sv cl :=
  h.same (hb.block b h.lt) (hb.block kb h.klt) fun g _ _ _ hg => hb.block g (Array.getElem?_eq_some_iff.1 hg).1

/-- Nothing has turned but these two blocks. -/
structure Touch (b kb : Nat) (w w' : World) : Prop where
  os : w'.os = w.os
  tape : w'.tape = w.tape
  output : w'.output = w.output
  size : w.heap.size ≤ w'.heap.size
  block : ∀ k, k < w.heap.size → k ≠ b → k ≠ kb → w'.heap[k]? = w.heap[k]?
theorem Touch.of (h : Below w.heap.size w w') : Touch b kb w w' := ⟨h.os, h.tape, h.output, h.size, fun k hk _ _ => h.block k hk⟩
theorem Touch.trans {x : World} (h : Touch b kb w w') (k : Touch b kb w' x) : Touch b kb w x :=
  ⟨k.os.trans h.os, k.tape.trans h.tape, k.output.trans h.output, Nat.le_trans h.size k.size, fun i hi h1 h2 => (k.block i (Nat.lt_of_lt_of_le hi h.size) h1 h2).trans (h.block i hi h1 h2)⟩
theorem Touch.setCell (h : Touch b kb w w') {p : Addr} (hp : p.block = b ∨ p.block = kb) (u : Value) : Touch b kb w (w'.setCell p u) :=
  h.trans ⟨rfl, rfl, rfl, by simp [World.setCell], fun k _ h1 h2 => Below.heap_setCell _ _ _ _ (by rcases hp with e | e <;> rw [e] <;> assumption)⟩
theorem Touch.drew (h : Touch b kb w w') : Touch b kb w w'.drew := ⟨h.os, h.tape, h.output, h.size, h.block⟩
theorem Touch.below {B : Nat} (h : Touch b kb w w') (h1 : B ≤ b) (h2 : B ≤ kb) (h3 : B ≤ w.heap.size) : Below B w w' := ⟨h.os, h.tape, h.output, h.size, fun k hk => h.block k (by omega) (by omega) (by omega)⟩

theorem Touch.own {e : TypeId} {v : Value} {k base : Nat} {xs : List Value} (h : Touch b kb w w') (hs : SysM w b kb n size f rv sv cl) (he : e ≠ 74 ∧ e ≠ 82) (ho : w.ownsRow base e 1 v k xs) : w'.ownsRow base e 1 v k xs :=
  own_same ho fun g cur hg => by
    refine h.block g (Array.getElem?_eq_some_iff.1 hg).1 (fun e1 => ?_) (fun e1 => ?_)
    · have := hs.obj
      rw [← e1, hg] at this
      simp at this
      exact he.1 this.2
    · obtain ⟨cur', hc⟩ := hs.kobj
      rw [← e1, hg] at hc
      simp at hc
      exact he.2 hc.2

/-- Another system than the one that is touched. -/
theorem Touch.other {b' kb' n' size' : Nat} {f' : Nat → Option Eqn} {rv' sv' : Nat → Value} {cl' : Bool} (h : Touch b kb w w') (hs : SysM w b kb n size f rv sv cl) (ho : SysM w b' kb' n' size' f' rv' sv' cl') (hb : b' ≠ b) (hk : kb' ≠ kb) : SysM w' b' kb' n' size' f' rv' sv' cl' := by
  have h1 : b' ≠ kb := fun e => by
    obtain ⟨cur, hc⟩ := hs.kobj
    have := ho.obj
    rw [e, hc] at this
    simp at this
  have h2 : kb' ≠ b := fun e => by
    obtain ⟨cur, hc⟩ := ho.kobj
    have := hs.obj
    rw [← e, hc] at this
    simp at this
  refine ho.same (h.block _ ho.lt hb h1) (h.block _ ho.klt h2 hk) fun g e cur he hg => ?_
  refine h.block g (Array.getElem?_eq_some_iff.1 hg).1 (fun e1 => ?_) (fun e1 => ?_)
  · have := hs.obj
    rw [← e1, hg] at this
    rcases he with rfl | rfl <;> simp at this
  · obtain ⟨cur', hc⟩ := hs.kobj
    rw [← e1, hg] at hc
    rcases he with rfl | rfl <;> simp at hc

theorem SysM.stair (h : SysM w b kb n size f rv sv cl) : Stair (uF f n) n := fun c hc => by
  have hp := h.place c hc
  cases hf : f c with
  | none => exact .inl (uF_none hf)
  | some q =>
    rw [hf] at hp
    rw [uF_some hf]
    exact .inr (longV_lead hc hp.2.2.2)
end

/-- A system, by what its equations span: where it lies, what it has kept, how many, whether it has clashed. -/
def Sys (w : World) (b n size : Nat) (K : List Vec) (r : Nat) (cl : Bool) (kb : Nat) : Prop :=
  ∃ f rv sv, SysM w b kb n size f rv sv cl ∧ SpEq (stL (uF f n) n) K ∧ cntF f n = r
theorem Sys.mono {w w' : World} {b n size r kb : Nat} {K : List Vec} {cl : Bool} (h : Sys w b n size K r cl kb) (hb : Below w.heap.size w w') : Sys w' b n size K r cl kb := by
  obtain ⟨f, rv, sv, h1, h2⟩ := h
  exact ⟨f, rv, sv, h1.mono hb, h2⟩
end Go.Proofs.YtnkkaggepokjeaaDoor
