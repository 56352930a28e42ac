import Derived.Test.YtkhdjjcflbdegaaGreatDoorG09
import Derived.Test.YtkhdjjcflbdegaaGreatDoorG13
import Derived.Test.YtkhdjjcflbdegaaGreatDoorG17
import Derived.Test.YtkhdjjcflbdegaaGreatDoorG22
import Derived.Test.YtkhdjjcflbdegaaGreatDoorG50
import Derived.Test.YtkhdjjcflbdegaaGreatDoorG16
import Derived.Test.YtkhdjjcflbdegaaGreatDoorG25
import Derived.Deep.RegionHeld3

section
/- Rows of bytes of a call's own: each in memory of its own (SymsAt), each in a block of its own (SepAt, SepIn: none beyond a bound); the document's Copy gives such ones; writes into them; sums of rows; rows cut or filled up (was in Law11F, Law11C, Law11N). -/
namespace Go.Proofs.YtkhdjjcflbdegaaGreatDoor
open Go.RowKit Go.Extern.Stop Go.Stop Go.Extern

/-- Symbols of the call's own, a row each. -/
def SymsAt (w : World) (B : Nat) (v : Value) (S : List (List Nat)) : Prop :=
  ∃ vs : List Value, w.ownsRow B 37 1 v S.length vs ∧ ∀ i, i < S.length → w.ownsRow B 5 1 (vs.getD i nilS) (S.getD i []).length ((S.getD i []).map byteV)

section
variable {w w' : World} {B : Nat} {v : Value} {S : List (List Nat)}
theorem SymsAt.nil (w : World) (B : Nat) : SymsAt w B nilS [] := ⟨[], World.ownsRow_nil _ _ _ _, fun i hi => by simp at hi⟩
theorem SymsAt.same (h : SymsAt w B v S) (hs : ∀ (g : Nat) (e : TypeId) (cur : Array Value), e = 37 ∨ e = 5 → w.heap[g]? = some (Obj.cells cur e (0, 0)) → w'.heap[g]? = w.heap[g]?) : SymsAt w' B v S := by
  obtain ⟨vs, h1, h2⟩ := h
  exact ⟨vs, own_same h1 fun g cur hg => hs g _ cur (.inl rfl) hg, fun i hi => own_same (h2 i hi) fun g cur hg => hs g _ cur (.inr rfl) hg⟩
theorem SymsAt.mono (h : SymsAt w B v S) (hb : Below w.heap.size w w') : SymsAt w' B v S := h.same fun g _ _ _ hg => hb.block g (Array.getElem?_eq_some_iff.1 hg).1
theorem SymsAt.at (h : SymsAt w B v S) : MatAt byteV w v S := by
  obtain ⟨vs, h1, h2⟩ := h
  have hl : vs.length = S.length := by have := h1.1; omega
  refine ⟨vs, ListAt.of_owns (n := S.length) (by rw [List.map_id]; exact h1), hl, fun i => ?_⟩
  by_cases hi : i < S.length
  · exact ListAt.of_owns (h2 i hi)
  · rw [List.getD_eq_getElem?_getD, List.getElem?_eq_none (by omega), List.getD_eq_getElem?_getD, List.getElem?_eq_none (by omega)]
    exact ListAt.nil _ _
theorem own_grown_ne {e e' : TypeId} {v v' : Value} {k n B' : Nat} {xs xs' : List Value} (h : w.ownsRow B e 1 v' k xs) (ho : w.ownsRow B' e' 1 v n xs') (hg : w.grownBy w' v.ownBlock) (hne : e ≠ e') : w'.ownsRow B e 1 v' k xs :=
  own_same h fun g cur hgg => hg.block g (Array.getElem?_eq_some_iff.1 hgg).1 fun eq => by
    rcases ho.2 with ⟨rfl, _⟩ | ⟨g', cap, cur', rfl, _, hg', _⟩
    · simp [Value.ownBlock] at eq
    · have : g = g' := by simpa [Value.ownBlock] using eq
      rw [this, hg'] at hgg
      simp at hgg
      exact hne hgg.2.symm
theorem SymsAt.snoc {v' x : Value} {r : List Nat} {vs : List Value} (h1 : w.ownsRow B 37 1 v S.length vs) (h2 : ∀ i, i < S.length → w.ownsRow B 5 1 (vs.getD i nilS) (S.getD i []).length ((S.getD i []).map byteV)) (hx : w.ownsRow B 5 1 x r.length (r.map byteV))
    (ho : w'.ownsRow B 37 1 v' (S.length + 1) (vs ++ [x])) (hg : w.grownBy w' v.ownBlock) : SymsAt w' B v' (S ++ [r]) := by
  have hl : vs.length = S.length := by have := h1.1; omega
  refine ⟨vs ++ [x], by rw [List.length_append]; exact ho, fun i hi => ?_⟩
  rw [getD_snoc, getD_snoc, hl]
  by_cases e : i < S.length
  · rw [if_pos e, if_pos e]; exact own_grown_ne (h2 i e) h1 hg (by decide)
  · have e2 : i = S.length := by rw [List.length_append, List.length_singleton] at hi; omega
    rw [if_neg e, if_neg e, if_pos e2, if_pos e2]
    exact own_grown_ne hx h1 hg (by decide)
end

theorem SymsAt.grown {w w' : World} {B B' n : Nat} {v x : Value} {S : List (List Nat)} {e' : TypeId} {xs : List Value} (h : SymsAt w B v S) (ho : w.ownsRow B' e' 1 x n xs) (hg : w.grownBy w' x.ownBlock) (hne : e' ≠ 37 ∧ e' ≠ 5) : SymsAt w' B v S := by
  obtain ⟨vs, h1, h2⟩ := h
  exact ⟨vs, own_grown_ne h1 ho hg (fun e => hne.1 e.symm), fun i hi => own_grown_ne (h2 i hi) ho hg (fun e => hne.2 e.symm)⟩

theorem SymsAt.base {w : World} {B B' : Nat} {v : Value} {S : List (List Nat)} (h : SymsAt w B v S) (hb : B' ≤ B) : SymsAt w B' v S := by
  obtain ⟨vs, h1, h2⟩ := h
  exact ⟨vs, ownsRow_base h1 hb, fun i hi => ownsRow_base (h2 i hi) hb⟩
/-- A row, cut or filled up. -/
def padRow (r : List Nat) (size : Nat) : List Nat := r.take size ++ List.replicate (size - r.length) 0
theorem padRow_length (r : List Nat) (size : Nat) : (padRow r size).length = size := by unfold padRow; simp; omega
theorem padRow_octets {r : List Nat} {size : Nat} (h : Octets r) : Octets (padRow r size) := fun x hx => by
  rcases List.mem_append.1 hx with h1 | h1
  · exact h x (List.mem_of_mem_take h1)
  · have := (List.mem_replicate.1 h1).2; omega
theorem padRow_splice (r : List Nat) (size : Nat) : splice ((List.replicate size 0).map byteV) 0 ((r.take size).map byteV) = (padRow r size).map byteV := by
  unfold splice padRow
  rw [List.take_zero, List.nil_append, Nat.zero_add, List.length_map, List.length_take, List.map_append, ← List.map_drop, List.drop_replicate]
  congr 3
  omega

def SizeOk (S : List (List Nat)) (size : Nat) : Prop := ∀ r ∈ S, r.length = size ∧ Octets r
theorem SizeOk.snoc {S : List (List Nat)} {size : Nat} {r : List Nat} (h : SizeOk S size) (hr : r.length = size ∧ Octets r) : SizeOk (S ++ [r]) size := fun x hx => by
  rcases List.mem_append.1 hx with h1 | h1
  · exact h x h1
  · rw [List.mem_singleton.1 h1]; exact hr

theorem sizeOk_set {Y : List (List Nat)} {size i k y : Nat} (h : SizeOk Y size) (hi : i < Y.length) (hy : y < 256) : SizeOk (Y.set i ((Y.getD i []).set k y)) size := fun r hr => by
  rcases List.mem_or_eq_of_mem_set hr with hr | rfl
  · exact h r hr
  · have hm := h (Y.getD i []) (getD_mem_row hi)
    exact ⟨by rw [List.length_set]; exact hm.1, hm.2.set k y hy⟩

def SepAt (w : World) (B : Nat) (v : Value) (L : List (List Nat)) : Prop :=
  ∃ vs : List Value, w.ownsRow B 37 1 v L.length vs ∧ (∀ i, i < L.length → w.ownsRow B 5 1 (vs.getD i nilS) (L.getD i []).length ((L.getD i []).map byteV)) ∧
    ∀ i j, i < j → j < L.length → ∀ a b, (vs.getD i nilS).ownBlock = some a → (vs.getD j nilS).ownBlock = some b → a < b
section
variable {w w' : World} {B : Nat} {v : Value} {L : List (List Nat)}
theorem SepAt.start (w : World) (hb : B ≤ w.heap.size) : SepAt (w.alloc (.cells #[] 37)) B (.slice (some ⟨w.heap.size, 0, none⟩) 0 0) [] :=
  ⟨[], World.ownsRow_made (base := B) (e := 37) (size := 1) w #[] 0 hb (by decide) rfl, (fun i hi => by simp at hi), fun i j _ hj => by simp at hj⟩
theorem SepAt.syms (h : SepAt w B v L) : SymsAt w B v L := by
  obtain ⟨vs, h1, h2, -⟩ := h
  exact ⟨vs, h1, h2⟩
theorem SepAt.at (h : SepAt w B v L) : MatAt byteV w v L := h.syms.at
theorem SepAt.mono (h : SepAt w B v L) (hb : Below w.heap.size w w') : SepAt w' B v L := by
  obtain ⟨vs, h1, h2, h3⟩ := h
  exact ⟨vs, owns_kept h1 hb, fun i hi => owns_kept (h2 i hi) hb, h3⟩
theorem SepAt.snoc {v' x : Value} {r : List Nat} {vs : List Value} (h1 : w.ownsRow B 37 1 v L.length vs) (h2 : ∀ i, i < L.length → w.ownsRow B 5 1 (vs.getD i nilS) (L.getD i []).length ((L.getD i []).map byteV))
    (h3 : ∀ i j, i < j → j < L.length → ∀ a b, (vs.getD i nilS).ownBlock = some a → (vs.getD j nilS).ownBlock = some b → a < b) (hx : w.ownsRow B 5 1 x r.length (r.map byteV)) (hxb : ∀ i, i < L.length → ∀ a b, (vs.getD i nilS).ownBlock = some a → x.ownBlock = some b → a < b)
    (ho : w'.ownsRow B 37 1 v' (L.length + 1) (vs ++ [x])) (hg : w.grownBy w' v.ownBlock) : SepAt w' B v' (L ++ [r]) := by
  have hl : vs.length = L.length := by have := h1.1; omega
  refine ⟨vs ++ [x], by rw [List.length_append]; exact ho, fun i hi => ?_, fun i j hij hj a b ha hb => ?_⟩
  · rw [getD_snoc, getD_snoc, hl]
    by_cases e : i < L.length
    · rw [if_pos e, if_pos e]; exact own_grown_ne (h2 i e) h1 hg (by decide)
    · have e2 : i = L.length := by rw [List.length_append, List.length_singleton] at hi; omega
      rw [if_neg e, if_neg e, if_pos e2, if_pos e2]
      exact own_grown_ne hx h1 hg (by decide)
  · rw [List.length_append, List.length_singleton] at hj
    rw [getD_snoc, hl, if_pos (by omega)] at ha
    rw [getD_snoc, hl] at hb
    by_cases e : j < L.length
    · rw [if_pos e] at hb
      exact h3 i j hij e a b ha hb
    · rw [if_neg e, if_pos (by omega)] at hb
      exact hxb i (by omega) a b ha hb
end
/-- The same, no row's block beyond U. -/
def SepIn (w : World) (B U : Nat) (v : Value) (L : List (List Nat)) : Prop :=
  ∃ vs : List Value, w.ownsRow B 37 1 v L.length vs ∧ (∀ i, i < L.length → w.ownsRow B 5 1 (vs.getD i nilS) (L.getD i []).length ((L.getD i []).map byteV)) ∧
    (∀ i j, i < j → j < L.length → ∀ a b, (vs.getD i nilS).ownBlock = some a → (vs.getD j nilS).ownBlock = some b → a < b) ∧ ∀ i, i < L.length → ∀ a, (vs.getD i nilS).ownBlock = some a → a < U
section
variable {w w' : World} {B U : Nat} {v : Value} {L : List (List Nat)}
theorem SepAt.inside (h : SepAt w B v L) : SepIn w B w.heap.size v L := by
  obtain ⟨vs, h1, h2, h3⟩ := h
  exact ⟨vs, h1, h2, h3, fun i hi a ha => ((h2 i hi).lt a ha).2⟩
theorem SepIn.sep (h : SepIn w B U v L) : SepAt w B v L := by
  obtain ⟨vs, h1, h2, h3, -⟩ := h
  exact ⟨vs, h1, h2, h3⟩
theorem SepIn.mono (h : SepIn w B U v L) (hb : Below w.heap.size w w') : SepIn w' B U v L := by
  obtain ⟨vs, h1, h2, h3, h4⟩ := h
  exact ⟨vs, owns_kept h1 hb, fun i hi => owns_kept (h2 i hi) hb, h3, h4⟩
/-- A row of it, opened. -/
theorem SepIn.row (h : SepIn w B U v L) {i : Nat} (hi : i < L.length) (hp : 0 < (L.getD i []).length) : ∃ ga ca g c, v = .slice (some ⟨ga, 0, none⟩) L.length ca ∧ B ≤ ga ∧ w.cell? ⟨ga, i, none⟩ = some (.slice (some ⟨g, 0, none⟩) (L.getD i []).length c) ∧ B ≤ g ∧ g < U ∧
    (∀ k, k < (L.getD i []).length → w.cell? ⟨g, k, none⟩ = some (.int .u8 (((L.getD i []).getD k 0 : Nat) : Int))) ∧ (∀ k, w.frozen? ⟨g, k, none⟩ = false) ∧
    ∀ k y, k < (L.getD i []).length → SepIn (w.setCell ⟨g, k, none⟩ (.int .u8 (y : Nat))) B U v (L.set i ((L.getD i []).set k y)) := by
  obtain ⟨vs, h1, h2, h3, h5⟩ := h
  have hl : vs.length = L.length := by have := h1.1; omega
  obtain ⟨ao, ca, hv, -, hsome⟩ := own_open h1
  obtain ⟨ga, rfl⟩ := hsome (by omega)
  subst hv
  have hr := h2 i hi
  obtain ⟨ar, c, hv2, -, hsome2⟩ := own_open hr
  obtain ⟨g, rfl⟩ := hsome2 hp
  have hga := h1.lt ga rfl
  have hgr := hr.lt g (by rw [hv2]; rfl)
  have hgU := h5 i hi g (by rw [hv2]; rfl)
  have hc := h1.cellAt i (by omega)
  have hvi : vs[i]? = some (vs.getD i nilS) := by
    rw [List.getD_eq_getElem?_getD, List.getElem?_eq_getElem (by omega)]
    rfl
  rw [hvi, hv2] at hc
  have hr' := hr
  rw [hv2] at hr'
  obtain ⟨cur, hcur⟩ : ∃ cur, w.heap[g]? = some (.cells cur 5 (0, 0)) := by
    rcases hr'.2 with ⟨e, _⟩ | ⟨g', cap, cur, e, _, hh, _⟩
    · cases e
    · obtain rfl : g = g' := by simpa [Value.ownBlock] using congrArg Value.ownBlock e
      exact ⟨cur, hh⟩
  refine ⟨ga, ca, g, c, rfl, hga.1, hc, hgr.1, hgU, fun k hk => ?_, fun k => hr'.frozenAt k, fun k y hk => ?_⟩
  · have key : ∀ (R : List Nat) (t : Nat), t < R.length → (R.map byteV)[t]? = some (.int .u8 ((R.getD t 0 : Nat) : Int)) := fun R t ht => by
      simp [List.getD_eq_getElem?_getD, ht, byteV]
    rw [hr'.cellAt k (by omega)]
    exact key _ k hk
  · refine ⟨vs, by rw [List.length_set]; exact own_set h1 hcur (by decide) k _, fun j hj => ?_, fun a b hab hb => h3 a b hab (by rwa [List.length_set] at hb), fun a ha => h5 a (by rwa [List.length_set] at ha)⟩
    rw [List.length_set] at hj
    rw [getD_set _ _ _ _ _ hi]
    by_cases e : j = i
    · subst e
      rw [if_pos rfl, hv2, List.length_set, List.map_set]
      exact (hr'.stored k (.int .u8 (y : Nat))).1
    · rw [if_neg e]
      have hne : (vs.getD j nilS).ownBlock ≠ some g := fun hb => by
        rcases Nat.lt_or_gt_of_ne e with h | h
        · have := h3 j i h hi g g hb (by rw [hv2]; rfl)
          omega
        · have := h3 i j h hj g g (by rw [hv2]; rfl) hb
          omega
      have hrj := h2 j hj
      refine ⟨hrj.1, ?_⟩
      rcases hrj.2 with h4 | ⟨g', cap, cur', h4, h8, h6, h7⟩
      · exact .inl h4
      · refine .inr ⟨g', cap, cur', h4, h8, ?_, h7⟩
        rw [Below.heap_setCell _ _ _ _ (fun e2 => hne (by rw [h4]; exact congrArg some e2))]
        exact h6
end
theorem MatAt.rowAt {w : World} {a : Option Addr} {n c : Nat} {L : List (List Nat)} (h : MatAt byteV w (.slice a n c) L) {i : Nat} (hi : i < L.length) : ∃ b off, a = some ⟨b, off, none⟩ ∧ ∃ x, w.cell? ⟨b, off + i, none⟩ = some x ∧ ListAt byteV w x (L.getD i []) := by
  obtain ⟨a', c', he, -, -, hc⟩ := h.opens
  obtain ⟨rfl, -, rfl⟩ : a = a' ∧ n = L.length ∧ c = c' := by simpa using he
  obtain ⟨b, off, rfl, hcc⟩ := hc (by omega)
  obtain ⟨x, h1, h2⟩ := hcc i hi
  exact ⟨b, off, rfl, x, h1, h2⟩
theorem xorW_byte {a b : List Nat} (ha : Octets a) (hb : Octets b) : Octets (xorW a b) := by
  intro x hx
  unfold xorW at hx
  obtain ⟨i, hi, rfl⟩ := List.getElem_of_mem hx
  rw [List.getElem_zipWith]
  exact Nat.xor_lt_two_pow (n := 8) (ha _ (List.getElem_mem _)) (hb _ (List.getElem_mem _))
/-- Sums of rows, row for row. -/
def sumsTo (S Y : List (List Nat)) (j : Nat) : List (List Nat) := (List.range j).map fun t => xorW (S.getD t []) (Y.getD t [])
theorem sumsTo_length (S Y : List (List Nat)) (j : Nat) : (sumsTo S Y j).length = j := by simp [sumsTo]
theorem sumsTo_succ (S Y : List (List Nat)) (j : Nat) : sumsTo S Y (j + 1) = sumsTo S Y j ++ [xorW (S.getD j []) (Y.getD j [])] := by
  unfold sumsTo
  rw [List.range_succ, List.map_append]
  rfl
theorem sumsTo_set {S Y : List (List Nat)} {j : Nat} (h : j < Y.length) (r : List Nat) : sumsTo S (Y.set j r) j = sumsTo S Y j := by
  unfold sumsTo
  refine List.map_congr_left fun t ht => ?_
  have := List.mem_range.1 ht
  rw [getD_set _ _ _ _ _ h, if_neg (by omega)]
theorem sumsTo_getD {S Y : List (List Nat)} {j t : Nat} (h : t < j) : (sumsTo S Y j).getD t [] = xorW (S.getD t []) (Y.getD t []) := by simp [sumsTo, List.getD_eq_getElem?_getD, h]
theorem sumsTo_ok {S Y : List (List Nat)} {j size : Nat} (hS : SizeOk S size) (hY : SizeOk Y size) (h1 : j ≤ S.length) (h2 : j ≤ Y.length) : SizeOk (sumsTo S Y j) size := fun r hr => by
  obtain ⟨t, ht, rfl⟩ := List.mem_map.1 hr
  have := List.mem_range.1 ht
  have a := hS (S.getD t []) (getD_mem_row (by omega))
  have b := hY (Y.getD t []) (getD_mem_row (by omega))
  exact ⟨by rw [xorW_length (by rw [a.1, b.1]), a.1], xorW_byte a.2 b.2⟩
theorem SepIn.same {w w' : World} {B U ga n c : Nat} {L : List (List Nat)} (h : SepIn w B U (.slice (some ⟨ga, 0, none⟩) n c) L) (hga : ga < U) (hs : ∀ g, g < U → g < w.heap.size → w'.heap[g]? = w.heap[g]?) : SepIn w' B U (.slice (some ⟨ga, 0, none⟩) n c) L := by
  obtain ⟨vs, h1, h2, h3, h4⟩ := h
  refine ⟨vs, ⟨h1.1, ?_⟩, fun i hi => ⟨(h2 i hi).1, ?_⟩, h3, h4⟩
  · rcases h1.2 with e | ⟨g, cap, cur, e, k1, k2, k3⟩
    · exact .inl e
    · have : ga = g := by simpa [Value.ownBlock] using congrArg Value.ownBlock e
      subst this
      exact .inr ⟨_, cap, cur, e, k1, by rw [hs _ hga (Array.getElem?_eq_some_iff.1 k2).1]; exact k2, k3⟩
  · rcases (h2 i hi).2 with e | ⟨g, cap, cur, e, k1, k2, k3⟩
    · exact .inl e
    · have hgU := h4 i hi g (by rw [e]; rfl)
      exact .inr ⟨g, cap, cur, e, k1, by rw [hs g hgU (Array.getElem?_eq_some_iff.1 k2).1]; exact k2, k3⟩
theorem SepIn.grown {w w' : World} {B U ga n c : Nat} {L : List (List Nat)} {row : Option Nat} (h : SepIn w B U (.slice (some ⟨ga, 0, none⟩) n c) L) (hga : ga < U) (hg : w.grownBy w' row) (hr : ∀ b, row = some b → U ≤ b) : SepIn w' B U (.slice (some ⟨ga, 0, none⟩) n c) L :=
  h.same hga fun g hgU hlt => hg.block g hlt fun e => by have := hr g e.symm; omega

end Go.Proofs.YtkhdjjcflbdegaaGreatDoor
end

section
/- Package elim: (*System).Clone. -/
namespace Go.Proofs.YtkhdjjcflbdegaaGreatDoor
open Go.RowKit Go.Extern.Stop Go.Stop Go.Extern

/-- The first k places of the kept ones. -/
def fTo (f : Nat → Option Eqn) (k : Nat) : Nat → Option Eqn := fun c => if c < k then f c else none

/-- A clone under way: the system as it was, and its first k places in the clone's own memory. -/
structure CloM (W : World) (X kx n size cnt k : Nat) (f : Nat → Option Eqn) (rv sv : Nat → Value) (cl : Bool) : Prop where
  obj : W.heap[X]? = some (.cells (sysCells n size kx cnt cl) 111 (0, 0))
  kobj : ∃ cur, W.heap[kx]? = some (.cells cur 120 (0, 0))
  kcell : ∀ c, c < n → W.cell? ⟨kx, c * 2, none⟩ = some (rv c) ∧ W.cell? ⟨kx, c * 2 + 1, none⟩ = some (sv c)
  place : ∀ c, c < n → PlaceAt W n size c (rv c) (sv c) (fTo f k c)

section
variable {W W' : World} {X kx n size cnt k : Nat} {f : Nat → Option Eqn} {rv sv : Nat → Value} {cl : Bool}
theorem CloM.lt (h : CloM W X kx n size cnt k f rv sv cl) : X < W.heap.size := (Array.getElem?_eq_some_iff.1 h.obj).1
theorem CloM.klt (h : CloM W X kx n size cnt k f rv sv cl) : kx < W.heap.size := by obtain ⟨cur, hc⟩ := h.kobj; exact (Array.getElem?_eq_some_iff.1 hc).1
theorem CloM.ne (h : CloM W X kx n size cnt k f rv sv cl) : X ≠ kx := fun e => by
  obtain ⟨cur, hc⟩ := h.kobj
  have := h.obj
  rw [e, hc] at this
  simp at this
theorem place_same {c : Nat} {r1 s1 : Value} {o : Option Eqn} (hp : PlaceAt W n size c r1 s1 o) (hs : ∀ (g : Nat) (e : TypeId) (cur : Array Value), e = 163 ∨ e = 5 → W.heap[g]? = some (Obj.cells cur e (0, 0)) → W'.heap[g]? = W.heap[g]?) : PlaceAt W' n size c r1 s1 o := by
  cases o with
  | none => exact hp
  | some q => exact ⟨own_same hp.1 fun g cur hg => hs g _ cur (.inl rfl) hg, own_same hp.2.1 fun g cur hg => hs g _ cur (.inr rfl) hg, hp.2.2⟩
theorem CloM.mono (h : CloM W X kx n size cnt k f rv sv cl) (hb : Below W.heap.size W W') : CloM W' X kx n size cnt k f rv sv cl := by
  obtain ⟨cur, hk⟩ := h.kobj
  refine ⟨(hb.block X h.lt).trans h.obj, ⟨cur, (hb.block kx h.klt).trans hk⟩, fun c hc => ?_, fun c hc => place_same (h.place c hc) fun g _ _ _ hg => hb.block g (Array.getElem?_eq_some_iff.1 hg).1⟩
  obtain ⟨h1, h2⟩ := h.kcell c hc
  exact ⟨(World.cell?_of_block (w := W) (a := ⟨kx, c * 2, none⟩) (hb.block kx h.klt)).trans h1, (World.cell?_of_block (w := W) (a := ⟨kx, c * 2 + 1, none⟩) (hb.block kx h.klt)).trans h2⟩
theorem CloM.full (h : CloM W X kx n size (cntF f n) n f rv sv cl) (hn : 1 ≤ n ∧ n ≤ 4096 ∧ 1 ≤ size ∧ size ≤ 64) : SysM W X kx n size f rv sv cl :=
  ⟨h.obj, h.kobj, h.kcell, fun c hc => by
    have := h.place c hc
    unfold fTo at this
    rwa [if_pos hc] at this, hn⟩
/-- The next place is stored. -/
theorem CloM.put (h : CloM W X kx n size cnt k f rv sv cl) {r1 s1 : Value} (hk : k < n) (hp : PlaceAt W n size k r1 s1 (f k)) :
    CloM ((W.setCell ⟨kx, k * 2, none⟩ r1).setCell ⟨kx, k * 2 + 1, none⟩ s1) X kx n size cnt (k + 1) f (updV rv k r1) (updV sv k s1) cl := by
  have hne := h.ne
  obtain ⟨cur, hkk⟩ := h.kobj
  have k1 := heap_setCell_at (j := k * 2) (u := r1) hkk
  have k2 := heap_setCell_at (j := k * 2 + 1) (u := s1) k1
  have o1 := (Below.heap_setCell W ⟨kx, k * 2, none⟩ r1 X hne).trans h.obj
  have o2 := (Below.heap_setCell (W.setCell ⟨kx, k * 2, none⟩ r1) ⟨kx, k * 2 + 1, none⟩ s1 X hne).trans o1
  have tr : ∀ (g : Nat) (e : TypeId) (cu : Array Value), e = 163 ∨ e = 5 → W.heap[g]? = some (Obj.cells cu e (0, 0)) → ((W.setCell ⟨kx, k * 2, none⟩ r1).setCell ⟨kx, k * 2 + 1, none⟩ s1).heap[g]? = W.heap[g]? := fun g e cu he hg => by
    have hgk : g ≠ kx := fun e1 => by
      rw [e1, hkk] at hg
      rcases he with rfl | rfl <;> simp at hg
    exact (Below.heap_setCell (W.setCell ⟨kx, k * 2, none⟩ r1) ⟨kx, k * 2 + 1, none⟩ s1 g hgk).trans (Below.heap_setCell W ⟨kx, k * 2, none⟩ r1 g hgk)
  refine ⟨o2, ⟨_, k2⟩, fun d hd => ?_, fun d hd => ?_⟩
  · obtain ⟨g1, g2⟩ := h.kcell d hd
    obtain ⟨e1, e2⟩ := h.kcell k hk
    unfold updV
    by_cases e : d = k
    · subst e
      rw [if_pos rfl, if_pos rfl]
      exact ⟨by rw [World.cell?_setCell_other (h := addr_ne (.inr (by omega)))]; exact World.cell?_setCell_same _ _ _ e1, World.cell?_setCell_same _ _ _ (by rw [World.cell?_setCell_other (h := addr_ne (.inr (by omega)))]; exact e2)⟩
    · rw [if_neg e, if_neg e]
      refine ⟨?_, ?_⟩ <;> rw [World.cell?_setCell_other (h := addr_ne (.inr (by omega))), World.cell?_setCell_other (h := addr_ne (.inr (by omega)))]
      · exact g1
      · exact g2
  · unfold updV
    by_cases e : d = k
    · subst e
      rw [if_pos rfl, if_pos rfl, show fTo f (d + 1) d = f d from if_pos (by omega)]
      exact place_same hp tr
    · rw [if_neg e, if_neg e]
      have : fTo f (k + 1) d = fTo f k d := by
        unfold fTo
        by_cases h1 : d < k
        · rw [if_pos h1, if_pos (by omega)]
        · rw [if_neg h1, if_neg (by omega)]
      rw [this]
      exact place_same (h.place d hd) tr
/-- What a place has, cloned. -/
theorem SysM.lists {b kb : Nat} (h : SysM W b kb n size f rv sv cl) {c : Nat} (hc : c < n) : ∃ r s ar cr ay cy, rv c = .slice ar r.length cr ∧ sv c = .slice ay s.length cy ∧ ListAt wordV W (rv c) r ∧ ListAt byteV W (sv c) s ∧ r.length ≤ 100000 ∧ s.length ≤ 100000 ∧
    ∀ (W' : World) (B : Nat) (v1 v2 : Value), (W'.ownsRow B 163 1 v1 r.length (r.map wordV)) → (W'.ownsRow B 5 1 v2 s.length (s.map byteV)) → (rv c = nilS → v1 = nilS) → (sv c = nilS → v2 = nilS) → PlaceAt W' n size c v1 v2 (f c) := by
  have hp := h.place c hc
  cases hf : f c with
  | none =>
    rw [hf] at hp
    obtain ⟨e1, e2⟩ := hp
    rw [e1, e2]
    exact ⟨[], [], none, 0, none, 0, rfl, rfl, ListAt.nil _ _, ListAt.nil _ _, by simp, by simp, fun W' B v1 v2 _ _ h1 h2 => ⟨h1 rfl, h2 rfl⟩⟩
  | some q =>
    rw [hf] at hp
    obtain ⟨h1, h2, h3, h4⟩ := hp
    have l1 : q.1.length = kOf n := h3.1
    have l2 : q.2.length = size := h3.2.2.2.1
    obtain ⟨ar, cr, e1, -, -⟩ := own_open h1
    obtain ⟨ay, cy, e2, -, -⟩ := own_open h2
    have := kOf_le h.num.2.1
    have := h.num.2.2.2
    refine ⟨q.1, q.2, ar, cr, ay, cy, by rw [l1]; exact e1, by rw [l2]; exact e2, ListAt.of_owns h1, ListAt.of_owns h2, by omega, by omega, fun W' B v1 v2 k1 k2 _ _ => ?_⟩
    rw [l1] at k1
    rw [l2] at k2
    exact ⟨ownsRow_base k1 (Nat.zero_le _), ownsRow_base k2 (Nat.zero_le _), h3, h4⟩
end

set_option maxRecDepth 1000000 in
set_option maxHeartbeats 4000000 in
theorem elClone_any {w : World} (b kb n size : Nat) (f : Nat → Option Eqn) (rv sv : Nat → Value) (cl : Bool) (hS : SysM w b kb n size f rv sv cl) :
    Calls Tryz.prog 60 #[sysP b] w fun e w' => ∃ X kx rv' sv', e = .returned (sysP X) ∧ SysM w' X kx n size f rv' sv' cl ∧ w.heap.size ≤ X ∧ w.heap.size ≤ kx ∧ Below w.heap.size w w' := by
  obtain ⟨i0, hi, hz0, hz1, hz2⟩ := info_parts info_eqn
  obtain ⟨hn1, hn2, hs1, hs2⟩ := hS.num
  obtain ⟨hc0, hc1, hc2, hc3, hc4⟩ := hS.cells
  have hlt := hS.lt
  have HS := Lib.hid hS
  clear hS
  go_enter Tryz.func60, Tryz.ntmps60
  go_wp2_with (at_make; refine wpList_make_full _ rfl _ _ 109 rfl w.heap.size 120 i0 (.agg #[.slice none 0 0, .slice none 0 0]) 2 Tryz.underlying109 hi hz0 hz1 .i64 .i64 _ _ n rfl rfl rfl rfl (by rw [hz2]; omega) (by unfold maxLen; omega) (by simp) ?_; intro w2 hown hgrow; have hb1 : Below w.heap.size w w2 := ((Below.refl _ _).alloc (Nat.le_refl _) _).trans ((Below.refl _ _).grown hgrow (by simp) (fun k hk => by cases hk)); have hX : w2.heap[w.heap.size]? = some (.cells (sysCells n size kb (cntF f n) cl) 111 (0, 0)) := (hgrow.block _ (by simp) (by simp)).trans (heap_alloc_new w _); have hx2 := cell_of_heap (j := 2) (u := .slice (some ⟨kb, 0, none⟩) n n) hX rfl; have hxf := frozen_of_heap (j := 2) hX; have HO := Lib.hid hown; have HB1 := Lib.hid hb1; have HX := Lib.hid hX; have hkb2 := hb1.cell (p := ⟨b, 2, none⟩) hlt; clear hown hgrow hb1 hX)
  have hC0 : CloM (w2.setCell ⟨w.heap.size, 2, none⟩ (.slice (some ⟨w.heap.size + 1, 0, none⟩) n n)) w.heap.size (w.heap.size + 1) n size (cntF f n) 0 f (fun _ => nilS) (fun _ => nilS) cl := by
    have hXX := HX.out
    obtain ⟨cur, hk⟩ : ∃ cur, w2.heap[w.heap.size + 1]? = some (.cells cur 120 (0, 0)) := by
      rcases HO.out.2 with ⟨e1, _⟩ | ⟨g, cap, cur, e1, _, h3, _⟩
      · cases e1
      · have : w.heap.size + 1 = g := by simpa [Value.ownBlock] using congrArg Value.ownBlock e1
        rw [this]; exact ⟨cur, h3⟩
    refine ⟨heap_setCell_at hXX, ⟨cur, (Below.heap_setCell _ _ _ _ (by simp)).trans hk⟩, fun c hc => ?_, fun c hc => ⟨rfl, rfl⟩⟩
    have hx : ∀ j, j < n * 2 → w2.cell? ⟨w.heap.size + 1, j, none⟩ = some nilS := fun j hj => by
      have := HO.out.cellAt j hj
      simp only [World.size_alloc] at this
      rw [this]
      exact made_pair _ _ _ hj
    refine ⟨?_, ?_⟩ <;> rw [World.cell?_setCell_other (h := addr_ne (.inl (by omega)))]
    · exact hx _ (by omega)
    · exact hx _ (by omega)
  have HC0 := Lib.hid hC0
  have HB2 : Hid (Below w.heap.size w (w2.setCell ⟨w.heap.size, 2, none⟩ (.slice (some ⟨w.heap.size + 1, 0, none⟩) n n))) := Lib.hid (HB1.out.setCell (p := ⟨w.heap.size, 2, none⟩) (Nat.le_refl _) _)
  clear hC0 HO HX HB1 hx2 hxf hkb2
  generalize hcnt : cntF f n = cnt at *
  generalize w2.setCell ⟨w.heap.size, 2, none⟩ (.slice (some ⟨w.heap.size + 1, 0, none⟩) n n) = w3 at *
  obtain ⟨X, hX⟩ : ∃ X, X = w.heap.size := ⟨_, rfl⟩
  obtain ⟨kx, hkx⟩ : ∃ kx, kx = w.heap.size + 1 := ⟨_, rfl⟩
  rw [← hkx, ← hX] at HC0
  rw [← hX] at HB2
  rw [← hkx, ← hX]
  have HXE := Lib.hid hX
  have HKE := Lib.hid hkx
  clear hX hkx
  go_loopw [4, 5, 23] (fun _ _ i wr => ∃ k : Nat, k ≤ n ∧ i = .int .i64 k ∧ Below X w wr ∧ ∃ rv' sv', CloM wr X kx n size cnt k f rv' sv' cl) (fun _ _ i _ => n - (intOf i).toNat)
  case atStart => exact ⟨0, Nat.zero_le _, rfl, HB2.out, _, _, HC0.out⟩
  case round =>
    clear HC0 HB2
    obtain ⟨k, hk, rfl, hbel, rv', sv', hclo⟩ := hrel
    have HB := Lib.hid hbel
    have HC := Lib.hid hclo
    by_cases hlt2 : k < n
    · have hX := HXE.out
      rw [hX] at hbel
      have hSr := HS.out.mono hbel
      obtain ⟨k1, k2⟩ := hSr.kcell k hlt2
      obtain ⟨r, s, ar, cr, ay, cy, e1, e2, l1, l2, hr1, hr2, hpl⟩ := hSr.lists hlt2
      rw [e1] at k1 l1
      rw [e2] at k2 l2
      have HPL := Lib.hid hpl
      rw [e1, e2] at HPL
      have hbE : Below wr.heap.size wr (wr.alloc (.cells #[.slice ar r.length cr, .slice ay s.length cy] 120)).drew := ((Below.refl _ _).alloc (Nat.le_refl _) _).drew
      have HL1 := Lib.hid (l1.mono hbE)
      have HL2 := Lib.hid (l2.mono hbE)
      have HCE := Lib.hid (hclo.mono hbE)
      have HBE := Lib.hid (HB.out.trans (hbE.mono (by rw [hX]; exact hbel.size)))
      have hx2 : (wr.alloc (.cells #[.slice ar r.length cr, .slice ay s.length cy] 120)).drew.cell? ⟨X, 2, none⟩ = some (.slice (some ⟨kx, 0, none⟩) n n) := cell_of_heap (j := 2) HCE.out.obj rfl
      have hE : (wr.alloc (.cells #[.slice ar r.length cr, .slice ay s.length cy] 120)).drew.heap[wr.heap.size]? = some (.cells #[.slice ar r.length cr, .slice ay s.length cy] 120 (0, 0)) := heap_alloc_new wr _
      have HX2 : Hid ((wr.alloc (.cells #[.slice ar r.length cr, .slice ay s.length cy] 120)).drew.cell? ⟨X, 2, none⟩ = some (.slice (some ⟨kx, 0, none⟩) n n) ∧ (wr.alloc (.cells #[.slice ar r.length cr, .slice ay s.length cy] 120)).drew.cell? ⟨wr.heap.size, 0, none⟩ = some (.slice ar r.length cr) ∧ (wr.alloc (.cells #[.slice ar r.length cr, .slice ay s.length cy] 120)).drew.cell? ⟨wr.heap.size, 1, none⟩ = some (.slice ay s.length cy)) := Lib.hid ⟨hx2, cell_of_heap (j := 0) hE rfl, cell_of_heap (j := 1) hE rfl⟩
      have HXF : Hid (∀ W, Below (wr.alloc (.cells #[.slice ar r.length cr, .slice ay s.length cy] 120)).drew.heap.size (wr.alloc (.cells #[.slice ar r.length cr, .slice ay s.length cy] 120)).drew W → W.cell? ⟨X, 2, none⟩ = some (.slice (some ⟨kx, 0, none⟩) n n) ∧ W.cell? ⟨wr.heap.size, 0, none⟩ = some (.slice ar r.length cr) ∧ W.cell? ⟨wr.heap.size, 1, none⟩ = some (.slice ay s.length cy)) := Lib.hid fun W hW => ⟨cell_of_heap (j := 2) (HCE.out.mono hW).obj rfl, (hW.cell (p := ⟨wr.heap.size, 0, none⟩) (by simp)).trans HX2.out.2.1, (hW.cell (p := ⟨wr.heap.size, 1, none⟩) (by simp)).trans HX2.out.2.2⟩
      have hkne : kx ≠ wr.heap.size := by have := HC.out.klt; omega
      have HXG : Hid (∀ W u1 u2, Below (wr.alloc (.cells #[.slice ar r.length cr, .slice ay s.length cy] 120)).drew.heap.size (wr.alloc (.cells #[.slice ar r.length cr, .slice ay s.length cy] 120)).drew W → ((W.setCell ⟨kx, k * 2, none⟩ u1).setCell ⟨kx, k * 2 + 1, none⟩ u2).cell? ⟨X, 2, none⟩ = some (.slice (some ⟨kx, 0, none⟩) n n) ∧ ((W.setCell ⟨kx, k * 2, none⟩ u1).setCell ⟨kx, k * 2 + 1, none⟩ u2).cell? ⟨wr.heap.size, 0, none⟩ = some (.slice ar r.length cr) ∧ ((W.setCell ⟨kx, k * 2, none⟩ u1).setCell ⟨kx, k * 2 + 1, none⟩ u2).cell? ⟨wr.heap.size, 1, none⟩ = some (.slice ay s.length cy)) := Lib.hid fun W u1 u2 hW => by
        have hn := HC.out.ne
        obtain ⟨q1, q2, q3⟩ := HXF.out W hW
        refine ⟨?_, ?_, ?_⟩ <;> rw [World.cell?_setCell_other (h := addr_ne (.inl (by omega))), World.cell?_setCell_other (h := addr_ne (.inl (by omega)))]
        · exact q1
        · exact q2
        · exact q3
      clear hSr hbel hclo hpl l1 l2 hbE e1 e2 hx2 hX hE
      go_wp2_with fail
      (
        go_region_held3 (fun w' => w'.cell? ⟨X, 2, none⟩ = some (.slice (some ⟨kx, 0, none⟩) n n) ∧ w'.cell? ⟨wr.heap.size, 0, none⟩ = some (.slice ar r.length cr) ∧ w'.cell? ⟨wr.heap.size, 1, none⟩ = some (.slice ay s.length cy))
          (first | exact HX2.out | exact HXF.out _ HB5.out | exact HXG.out _ _ _ HB5.out | go_keep)
          (first
          | (go_at_call 67; (with_reducible refine (eqClone_any _ _ r s HL1.out HL2.out hr1 hr2).mono ?_); rintro e w5 ⟨p1, p2, rfl, ho1, ho2, hz1', hz2', hb5⟩; have HP5 := Lib.hid (HPL.out w5 _ p1 p2 ho1 ho2 hz1' hz2'); have HC5 := Lib.hid (HCE.out.mono hb5); have HB5 := Lib.hid hb5; obtain ⟨a1, c1, rfl, -, -⟩ := own_open ho1; obtain ⟨a2, c2, rfl, -, -⟩ := own_open ho2; obtain ⟨hq1, hq2⟩ := HC5.out.kcell k hlt2; obtain ⟨curq, hkq⟩ := HC5.out.kobj; have hf1 := frozen_of_heap (j := k * 2) hkq; have hf2 := frozen_of_heap (j := k * 2 + 1) hkq; clear ho1 ho2 hz1' hz2' hb5 hkq)))
      go_wp2
      go_roundw
      case rel =>
        have hz := HBE.out.size
        have hXe := HXE.out
        have hKe := HKE.out
        exact ⟨k + 1, by omega, by go_num, ((HBE.out.trans (HB5.out.mono (by rw [hXe]; exact hz))).setCell (p := ⟨kx, k * 2, none⟩) (by rw [hXe, hKe]; exact Nat.le_succ _) _).setCell (p := ⟨kx, k * 2 + 1, none⟩) (by rw [hXe, hKe]; exact Nat.le_succ _) _, _, _, HC5.out.put hlt2 HP5.out⟩
      case measure => simp [intOf]; omega
    · have hkn : k = n := by omega
      subst hkn
      clear hbel hclo hlt2
      go_wp2
      go_ret
      have hXe := HXE.out
      have hKe := HKE.out
      exact ⟨X, kx, rv', sv', rfl, CloM.full (by rw [hcnt]; exact HC.out) ⟨hn1, hn2, hs1, hs2⟩, by omega, by omega, by rw [← hXe]; exact HB.out⟩

theorem sysClone {w : World} {b n size r kb : Nat} {K : List Vec} {cl : Bool} (h : Sys w b n size K r cl kb) :
    Calls Tryz.prog 60 #[sysP b] w fun e w' => ∃ X kx, e = .returned (sysP X) ∧ Sys w' X n size K r cl kx ∧ w.heap.size ≤ X ∧ w.heap.size ≤ kx ∧ Below w.heap.size w w' := by
  obtain ⟨f, rv, sv, h1, h2, rfl⟩ := h
  refine (elClone_any b kb n size f rv sv cl h1).mono ?_
  rintro e w' ⟨X, kx, rv', sv', rfl, k1, k2, k3, k4⟩
  exact ⟨X, kx, rfl, ⟨f, rv', sv', k1, h2, rfl⟩, k2, k3, k4⟩
end Go.Proofs.YtkhdjjcflbdegaaGreatDoor
end

section
/- Package system: Seed. -/
namespace Go.Proofs.YtkhdjjcflbdegaaGreatDoor
open Go.RowKit Go.Extern.Stop Go.Stop Go.Extern

def nameSSeed : ByteArray := ⟨#[115, 121, 115, 116, 101, 109, 46, 83, 101, 101, 100]⟩

set_option maxRecDepth 1000000 in
set_option maxHeartbeats 4000000 in
theorem Seed_no {w : World} (k : Int) (hk : k < 1 ∨ 128 < k) :
    Calls Tryz.prog 33 #[.int .i64 k] w (NoSays 1 nameSSeed (.int .i64 0) w) := by
  have HO : Hid (∀ V, Calls Tryz.prog 30 #[.int .i64 k] V (NoSays 1 nameOf (.agg #[.int .i64 0, .int .i64 0, .int .i64 0, .int .i64 0, .int .i64 0]) V)) := Lib.hid fun V => Of_out k hk
  clear hk
  go_enter Tryz.func33, Tryz.ntmps33
  go_wp2_with fail
  go_step3
  go_wp2_with fail
  refine (HO.out _).mono ?_
  rintro e w1 ⟨E, rfl, hea, hb1⟩
  obtain ⟨W, hW, hbW, hby⟩ := par_laid w1 0 0 0 0 0
  have HW := Lib.hid hW
  have HB1 := Lib.hid (hb1.trans (hbW.mono hb1.size))
  obtain ⟨ls, hch⟩ : ∃ ls, Chain w1 1 (nameOf :: ls) E := (hea.resolve_left (by rintro ⟨h, -⟩; cases h)).2
  have HCH := Lib.hid (hch.mono hbW)
  obtain ⟨u, x, rfl⟩ := hch.iface
  clear hea hb1 hW hbW hby hch
  go_upto_region 2 with fail
  rw [← HW.out]
  go_wp2_with fail
  refine (Wrap_chain nameSSeed 1 _ _ _ HCH.out).mono ?_
  rintro e w2 ⟨E2, rfl, hch, hb2⟩
  have HB2 := Lib.hid (HB1.out.trans (hb2.mono HB1.out.size))
  have HCH2 := Lib.hid hch
  obtain ⟨u2, x2, rfl⟩ := hch.iface
  clear hch hb2
  go_wp2
  go_ret2
  exact ⟨_, rfl, .inr ⟨by decide, _, HCH2.out⟩, HB2.out⟩

set_option maxRecDepth 1000000 in
set_option maxHeartbeats 4000000 in
theorem Seed_ok {w : World} (k : Nat) (hk1 : 1 ≤ k) (hk2 : k ≤ 128) (hT : DgTab w) (hB : Tab w) :
    Calls Tryz.prog 33 #[.int .i64 (k : Int)] w fun e w' => ∃ s h l p sd : Nat, e = .returned (.tuple #[.int .i64 (sd : Int), .nilIface]) ∧ OfP k s h l p ∧ IsSeed k s h l p sd ∧ Below w.heap.size w w' := by
  obtain ⟨i0, hi, hz0, hz1, hz2⟩ := info_parts info_u8
  have HT := Lib.hid hT
  have HBT := Lib.hid hB
  clear hT hB
  go_enter Tryz.func33, Tryz.ntmps33
  go_wp2_with fail
  go_step3
  go_wp2_with fail
  refine (Of_in k hk1 hk2).mono ?_
  rintro e w1 ⟨s, h, l, p, rfl, hof, hb1⟩
  have HOF := Lib.hid hof
  obtain ⟨sd, hsd⟩ := isSeed_ex hof hk1 hk2
  have HSD := Lib.hid hsd
  have hsd1 := hsd.1
  obtain ⟨W, hW, hbW, hby⟩ := par_laid w1 k s h l p
  have HW := Lib.hid hW
  have HB1 := Lib.hid (hb1.trans (hbW.mono hb1.size))
  have HX1 := Lib.hid hby
  have HK := Lib.hid (show 1 ≤ k ∧ k ≤ 128 from ⟨hk1, hk2⟩)
  have HBG : Hid (Calls Tryz.prog 59 #[.agg #[.int .i64 (k : Int), .int .i64 (s : Int), .int .i64 (h : Int), .int .i64 (l : Int), .int .i64 (p : Int)], .int .i64 1] W fun e w' => ∃ b kb, e = .returned (.tuple #[sysP b, .nilIface]) ∧ Sys w' b l 1 (sysF k s h l 1) (s + h) false kb ∧ W.heap.size ≤ b ∧ W.heap.size ≤ kb ∧ Below W.heap.size W w') := Lib.hid (begin_ok k s h l p 1 hof hk1 hk2 (by decide) (by decide) (HBT.out.mono HB1.out))
  obtain ⟨c0, c1, c2, c3, c4⟩ := hby.cells
  clear hof hsd hW hbW hby hb1
  unfold parV parC
  go_upto_region 2 with fail
  rw [← HW.out]
  obtain ⟨g1, hg1⟩ : ∃ g1, w1.heap.size = g1 := ⟨_, rfl⟩
  rw [hg1] at HX1 c0 c1 c2 c3 c4 ⊢
  clear hg1
  go_wp2_with fail
  refine HBG.out.mono ?_
  rintro e w2 ⟨b, kb, rfl, hsys, hgb, hgk, hb2⟩
  have HS2 := Lib.hid hsys
  have HB2 := Lib.hid (HB1.out.trans (hb2.mono HB1.out.size))
  have HX2 := Lib.hid (HX1.out.mono hb2)
  have hsz2 := HB2.out.size
  clear hsys hgb hgk hb2 c0 c1 c2 c3 c4
  go_wp2_with (at_make; refine wpList_make_full _ rfl _ _ 37 rfl w.heap.size 5 i0 (.int .u8 0) 1 Tryz.underlying37 hi hz0 hz1 .i64 .i64 _ _ 1 rfl rfl rfl rfl (by rw [hz2]; omega) (by unfold maxLen; omega) hsz2 ?_; intro w3 hown0 hgrow0; have hb3 := Lib.hid ((Below.refl w2.heap.size w2).grown hgrow0 (Nat.le_refl _) (fun k hk => by cases hk)); have ho3 := Lib.hid hown0; clear hown0 hgrow0)
  have HS3 := Lib.hid (HS2.out.mono hb3.out)
  have HX3 := Lib.hid (HX2.out.mono hb3.out)
  have HB3 := Lib.hid (HB2.out.trans (hb3.out.mono hsz2))
  have HO3 : Hid (ListAt byteV w3 (.slice (some ⟨w2.heap.size, 0, none⟩) 1 1) (List.replicate 1 0)) := Lib.hid (by
    have := ho3.out
    rw [Nat.mul_one] at this
    refine ListAt.of_owns (f := byteV) (base := w.heap.size) (n := 1) (e := 5) ?_
    rw [List.map_replicate]
    exact toList_madeCells_one (.int .u8 0) 1 ▸ this)
  generalize w2.heap.size = g2 at *
  have HT3 := Lib.hid (PairsAt.mono HT.out HB3.out)
  have HBT3 := Lib.hid (HBT.out.mono HB3.out)
  have HEQ : Hid (sysF k s h l 1 = sysE k s h l p 0 1 (fun _ => List.replicate 1 0) 0) := Lib.hid (sysE_zero ..).symm
  clear hb3 ho3 HS2 HX1 HX2
  go_step3
  go_wp2_with fail
  go_loopg [32] 65537 (fun gk i wr => ∃ t : Nat, i = .int .i64 t ∧ t ≤ sd ∧ sd - t < gk ∧ Below w3.heap.size w3 wr)
  case atStart => exact ⟨0, rfl, Nat.zero_le _, by omega, Below.refl _ _⟩
  case round =>
    obtain ⟨t, rfl, hts, hgk, hbel⟩ := hrel
    obtain ⟨go, rfl⟩ : ∃ go, go = gk := ⟨gk, rfl⟩
    have HTS := Lib.hid hts
    have HGO := Lib.hid hgk
    have HBL := Lib.hid hbel
    have HCL := Lib.hid (sysClone (HS3.out.mono hbel))
    have htl : t < 65536 := by omega
    have dt : decide ((t : Int) < 65536) = true := decide_eq_true (by omega)
    clear hts hgk hbel
    go_wp2_with fail
    refine HCL.out.mono ?_
    rintro e w4 ⟨X, kx, rfl, hsx, hgX, hgK, hb4⟩
    have HBX4 := Lib.hid (HBL.out.trans (hb4.mono HBL.out.size))
    have HGX : Hid (w3.heap.size ≤ X ∧ w3.heap.size ≤ kx) := Lib.hid ⟨Nat.le_trans HBL.out.size hgX, Nat.le_trans HBL.out.size hgK⟩
    have HSX : Hid (Sys w4 X l 1 (sysE k s h l p t 1 (fun _ => List.replicate 1 0) 0) (s + h + 0) false kx) := Lib.hid (by rw [sysE_zero]; exact hsx)
    have HR0 := Lib.hid (rank_F k s h l p t)
    clear hsx hgX hgK hb4
    go_wp2_with fail
    go_loopg [38] 129 (fun gd j wr => ∃ q : Nat, j = .int .i64 q ∧ q ≤ k ∧ k - q < gd ∧ Sys wr X l 1 (sysE k s h l p t 1 (fun _ => List.replicate 1 0) q) (s + h + q) false kx ∧ rankA k s h l p t (List.range q) = s + h + q ∧ Below w3.heap.size w3 wr)
    case atStart => exact ⟨0, rfl, Nat.zero_le _, by omega, HSX.out, HR0.out, HBX4.out⟩
    case round =>
      obtain ⟨q, rfl, hqk, hgd, hsx, hrq, hbel⟩ := hrel
      clear HSX HR0 HBX4 HBL
      have HBL := Lib.hid hbel
      have HGD := Lib.hid hgd
      obtain ⟨c0, c1, c2, c3, c4⟩ := (HX3.out.mono hbel).cells
      by_cases hlt : q < k
      · have dq : decide ((q : Int) < (k : Int)) = true := decide_eq_true (by omega)
        have HFI := Lib.hid (fresh_iff (size := 1) (src := fun _ => List.replicate 1 0) (y := List.replicate 1 0) HOF.out.2.2.1 hrq)
        have HQK := Lib.hid hlt
        have HAD := Lib.hid (add_ok X (sysE k s h l p t 1 (fun _ => List.replicate 1 0) q) (s + h + q) kx k s h l p t q 1 _ (List.replicate 1 0) hsx HOF.out hk1 hk2 htl (by omega) (HO3.out.mono hbel) List.length_replicate (octets_zero 1) (PairsAt.mono HT3.out hbel) (HBT3.out.mono hbel))
        have HES := Lib.hid (sysE_succ k s h l p t 1 (fun _ => List.replicate 1 0) q)
        obtain ⟨kd, hkd⟩ : ∃ kd, kindV l (sysE k s h l p t 1 (fun _ => List.replicate 1 0) q) (eqL l (rowE l p t q) (List.replicate 1 0)) = kd := ⟨_, rfl⟩
        by_cases h1 : kd = 1
        · subst h1
          have HAE : Hid (Calls Tryz.prog 61 #[sysP X, .agg #[.int .i64 (k : Int), .int .i64 (s : Int), .int .i64 (h : Int), .int .i64 (l : Int), .int .i64 (p : Int)], .int .i64 (t : Int), .int .i64 (q : Int), .slice (some ⟨g2, 0, none⟩) 1 1] wr fun e w' => e = .returned (.tuple #[.int .i64 1, .nilIface]) ∧ Touch X kx wr w' ∧ Sys w' X l 1 (sysE k s h l p t 1 (fun _ => List.replicate 1 0) (q + 1)) (s + h + (q + 1)) false kx) := Lib.hid (by
            refine HAD.out.mono ?_
            rintro e w' ⟨rfl, h1, h2⟩
            unfold addV addR at h2
            rw [hkd] at h2 ⊢
            refine ⟨rfl, h1, ?_⟩
            rw [HES.out]
            exact h2)
          have HRQ := Lib.hid (HFI.out.1 hkd)
          clear HAD HFI HES hkd hsx hrq hbel hgd
          go_wp2_with fail
          refine HAE.out.mono ?_
          rintro e w5 ⟨rfl, ht5, hs5⟩
          have HS5 := Lib.hid hs5
          have HB5 := Lib.hid (HBL.out.trans (ht5.below HGX.out.1 HGX.out.2 HBL.out.size))
          obtain ⟨g', rfl⟩ : ∃ g', gk = g' + 1 := ⟨gk - 1, by have := HGD.out; omega⟩
          clear ht5 hs5 c0 c1 c2 c3 c4
          go_wp2_with fail
          go_roundg g'
          case measure => omega
          case rel => exact ⟨q + 1, by go_num, by omega, by have := HGD.out; omega, HS5.out, HRQ.out, HB5.out⟩
        · have HAE : Hid (Calls Tryz.prog 61 #[sysP X, .agg #[.int .i64 (k : Int), .int .i64 (s : Int), .int .i64 (h : Int), .int .i64 (l : Int), .int .i64 (p : Int)], .int .i64 (t : Int), .int .i64 (q : Int), .slice (some ⟨g2, 0, none⟩) 1 1] wr fun e w' => e = .returned (.tuple #[.int .i64 (kd : Int), .nilIface]) ∧ Touch X kx wr w') := Lib.hid (by
            refine HAD.out.mono ?_
            rintro e w' ⟨rfl, h1, h2⟩
            rw [hkd]
            exact ⟨rfl, h1⟩)
          have HLT : Hid (t < sd) := Lib.hid (by
            have h2 := HFI.out.2 (by rw [hkd]; exact h1) k hlt
            have h3 := HSD.out.2.1
            have h4 := HOF.out.2.2.1
            rcases Nat.lt_or_ge t sd with h5 | h5
            · exact h5
            · have h6 := HTS.out
              obtain rfl : t = sd := by omega
              rw [h3] at h2
              omega)
          have hkb1 : ((kd : Int) == 1) = false := by rw [beq_eq_false_iff_ne]; omega
          have hkb2 : ((kd : Int) != 1) = true := by rw [bne_iff_ne]; omega
          clear HAD HFI HES hkd hsx hrq hbel hgd h1
          go_wp2_with fail
          refine HAE.out.mono ?_
          rintro e w5 ⟨rfl, ht5⟩
          have HB5 := Lib.hid (HBL.out.trans (ht5.below HGX.out.1 HGX.out.2 HBL.out.size))
          obtain ⟨g', rfl⟩ : ∃ g', go = g' + 1 := ⟨go - 1, by have := HGO.out; omega⟩
          clear ht5 c0 c1 c2 c3 c4
          go_wp2_with fail
          go_roundg g'
          case measure => omega
          case rel => exact ⟨t + 1, by go_num, HLT.out, by have := HGO.out; have := HLT.out; omega, HB5.out⟩
      · have dq : decide ((q : Int) < (k : Int)) = false := decide_eq_false (by omega)
        have hqk' : q = k := by omega
        have HSE : Hid (t = sd) := Lib.hid (by
          have h3 := HSD.out.2.2
          have h4 := HOF.out.2.2.1
          rcases Nat.lt_or_ge t sd with h5 | h5
          · refine absurd ?_ (h3 t h5)
            have hr2 := hrq
            rw [hqk'] at hr2
            omega
          · have h6 := HTS.out
            omega)
        clear hsx hrq hbel hgd c0 c1 c2 c3 c4
        go_wp2_with fail
        try rw [Exit.noGoto_ret]
        go_ret2
        exact ⟨s, h, l, p, t, rfl, HOF.out, by rw [HSE.out]; exact HSD.out, HB3.out.trans (HBL.out.mono HB3.out.size)⟩
end Go.Proofs.YtkhdjjcflbdegaaGreatDoor
end
