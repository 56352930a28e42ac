import Derived.Test.YtkhdjjcflbdegaaGreatDoorG07
import Derived.Laws.AppendOwnNone
import Derived.Deep.Draws
import Derived.BigQuiet
import Derived.WalkSmall
import Derived.Deep.QuietTactic
import Derived.Laws.ShiftsVar
import Derived.OwnWalk
import Derived.WalkSpells
import Derived.WalkLawsBesides
import Derived.Deep.LoopGhost

section
/- Lists of rows in memory: as they are read (MatAt), as a call makes them (ElAt, MatOwn); append of a slice that is only read; a row filled from the front. -/
namespace Go.Proofs.YtkhdjjcflbdegaaGreatDoor
open Go.RowKit Go.Extern.Stop Go.Stop Go.Extern

theorem ListAt.take {α : Type} {f : α → Value} {w : World} {a : Option Addr} {cap : Nat} {l : List α} (h : ListAt f w (.slice a l.length cap) l) (k : Nat) (hk : k ≤ l.length) : ListAt f w (.slice a k cap) (l.take k) := by
  obtain ⟨a', cap', e, hc, hm, h⟩ := h
  cases e
  have hl : (l.take k).length = k := by rw [List.length_take]; omega
  refine ⟨a, cap, by rw [hl], by omega, hm, fun hp => ?_⟩
  obtain ⟨b, off, rfl, hcell⟩ := h (by omega)
  refine ⟨b, off, rfl, fun j hj => ?_⟩
  rw [hcell j (by omega)]
  simp

theorem own_snoc {α : Type} {f : α → Value} {w : World} {B q : Nat} {e : TypeId} {v : Value} {l : List α} {x : α} (hq : l.length = q) (h : w.ownsRow B e 1 v (q + 1) (l.map f ++ [f x])) :
    w.ownsRow B e 1 v (l ++ [x]).length ((l ++ [x]).map f) := by
  rw [List.map_append, List.length_append]
  subst hq
  exact h

theorem below_draws {B : Nat} {a w : World} (h : Below B a w) (n : Nat) : Below B a (w.drewN n) := h.trans ⟨rfl, rfl, rfl, Nat.le_refl _, fun _ _ => rfl⟩

abbrev I64 (n : Int) : Prop := -9223372036854775808 ≤ n ∧ n ≤ 9223372036854775807

abbrev nilS : Value := .slice none 0 0

/-- A slice whose elements are slices, which read as the rows L. -/
def MatAt {α : Type} (f : α → Value) (w : World) (v : Value) (L : List (List α)) : Prop :=
  ∃ vs : List Value, ListAt id w v vs ∧ vs.length = L.length ∧ ∀ i, ListAt f w (vs.getD i nilS) (L.getD i [])

section
variable {α : Type} {f : α → Value} {w w' : World} {v : Value} {L : List (List α)}

theorem MatAt.mono (h : MatAt f w v L) (hb : Below w.heap.size w w') : MatAt f w' v L := by
  obtain ⟨vs, h1, h2, h3⟩ := h
  exact ⟨vs, h1.mono hb, h2, fun i => (h3 i).mono hb⟩

theorem MatAt.len (h : MatAt f w v L) : L.length ≤ 9223372036854775807 := by
  obtain ⟨vs, h1, h2, _⟩ := h
  have := h1.len
  omega

theorem MatAt.opens (h : MatAt f w v L) : ∃ a cap, v = .slice a L.length cap ∧ L.length ≤ cap ∧ cap ≤ maxLen ∧
    (0 < L.length → ∃ b off, a = some ⟨b, off, none⟩ ∧ ∀ j, j < L.length → ∃ x, w.cell? ⟨b, off + j, none⟩ = some x ∧ ListAt f w x (L.getD j [])) := by
  obtain ⟨vs, ⟨a, cap, rfl, h1, h2, h3⟩, h4, h5⟩ := h
  refine ⟨a, cap, by rw [h4], by omega, h2, fun hp => ?_⟩
  obtain ⟨b, off, rfl, hc⟩ := h3 (by omega)
  refine ⟨b, off, rfl, fun j hj => ⟨vs.getD j nilS, ?_, h5 j⟩⟩
  rw [hc j (by omega)]
  have : j < vs.length := by omega
  simp [this]

theorem MatAt.take {a : Option Addr} {cap : Nat} (h : MatAt f w (.slice a L.length cap) L) (k : Nat) (hk : k ≤ L.length) : MatAt f w (.slice a k cap) (L.take k) := by
  obtain ⟨vs, h1, h2, h3⟩ := h
  rw [← h2] at h1
  refine ⟨vs.take k, h1.take k (by omega), by simp; omega, fun i => ?_⟩
  by_cases hi : i < k
  · have := h3 i
    simp only [List.getD_eq_getElem?_getD, List.getElem?_take, if_pos hi] at this ⊢
    exact this
  · simp only [List.getD_eq_getElem?_getD, List.getElem?_take, if_neg hi]
    exact ListAt.nil f w

theorem MatAt.drop_one {b off cap : Nat} (h : MatAt f w (.slice (some ⟨b, off, none⟩) L.length cap) L) (hp : 0 < L.length) : MatAt f w (.slice (some ⟨b, off + 1, none⟩) (L.length - 1) (cap - 1)) (L.drop 1) := by
  obtain ⟨vs, ⟨a, cap', e, h1, h2, h3⟩, h4, h5⟩ := h
  obtain ⟨rfl, -, rfl⟩ : some ⟨b, off, none⟩ = a ∧ L.length = vs.length ∧ cap = cap' := by simpa using e
  obtain ⟨b', off', e, hc⟩ := h3 (by omega)
  cases e
  refine ⟨vs.drop 1, ⟨_, cap - 1, by rw [List.length_drop, h4], by rw [List.length_drop]; omega, by omega, fun _ => ⟨b, off + 1, rfl, fun j hj => ?_⟩⟩, by simp; omega, fun i => ?_⟩
  · rw [List.length_drop] at hj
    rw [Nat.add_assoc, hc (1 + j) (by omega)]
    simp [Nat.add_comm]
  · have := h5 (1 + i)
    simp only [List.getD_eq_getElem?_getD, List.getElem?_drop] at this ⊢
    exact this

theorem MatAt.nil (f : α → Value) (w : World) : MatAt f w nilS [] := ⟨[], ListAt.nil _ _, rfl, fun i => by simpa using ListAt.nil f w⟩

/-- An element that lies where its kind of elements lies, or in what was there ahead of the call. -/
def ElAt (f : α → Value) (te : TypeId) (base : Nat) (w : World) (x : Value) (r : List α) : Prop :=
  ListAt f w x r ∧ (0 < r.length → ∀ b, x.ownBlock = some b → b < base ∨ ∃ cur, w.heap[b]? = some (.cells cur te (0, 0)))

variable {te e : TypeId} {base n : Nat} {x : Value} {r : List α} {vs : List Value}

theorem ListAt.block (h : ListAt f w x r) (hp : 0 < r.length) : ∀ b, x.ownBlock = some b → b < w.heap.size := by
  obtain ⟨a, cap, rfl, _, _, hcell⟩ := h
  obtain ⟨b', off, rfl, hc⟩ := hcell hp
  intro b hb
  have : b' = b := by simpa [Value.ownBlock] using hb
  subst this
  exact World.block_lt_of_cell? w _ (hc 0 hp)

theorem ElAt.old (h : ListAt f w x r) (hb : Below w.heap.size w w') : ElAt f te w.heap.size w' x r := ⟨h.mono hb, fun hp b hx => .inl (h.block hp b hx)⟩

theorem ElAt.own {base' : Nat} (h : w.ownsRow base' te 1 x n (r.map f)) : ElAt f te base w x r := by
  refine ⟨ListAt.of_owns h, fun _ b hx => ?_⟩
  rcases h.2 with ⟨rfl, _⟩ | ⟨g, cap, cur, rfl, _, hg, _⟩
  · simp [Value.ownBlock] at hx
  · have : g = b := by simpa [Value.ownBlock] using hx
    subst this
    exact .inr ⟨cur, hg⟩

theorem ElAt.mono (h : ElAt f te base w x r) (hb : Below w.heap.size w w') : ElAt f te base w' x r := by
  refine ⟨h.1.mono hb, fun hp b hx => ?_⟩
  rcases h.2 hp b hx with h1 | ⟨cur, h1⟩
  · exact .inl h1
  · exact .inr ⟨cur, by rw [hb.block b (h.1.block hp b hx)]; exact h1⟩

theorem ElAt.nil (f : α → Value) (te : TypeId) (base : Nat) (w : World) : ElAt f te base w nilS [] := ⟨ListAt.nil f w, fun h => by simp at h⟩

theorem ElAt.grown (h : ElAt f te base w x r) (hne : e ≠ te) (hown : w.ownsRow base e 1 v n vs) (hg : w.grownBy w' v.ownBlock) : ElAt f te base w' x r := by
  by_cases hp : 0 < r.length
  · have hnb : ∀ b, x.ownBlock = some b → w'.heap[b]? = w.heap[b]? := fun b hx => by
      refine hg.block b (h.1.block hp b hx) fun hv => ?_
      rcases hown.2 with ⟨rfl, _⟩ | ⟨g, cap, cur, rfl, hbg, hgg, _⟩
      · simp [Value.ownBlock] at hv
      · have : b = g := by simpa [Value.ownBlock] using hv
        subst this
        rcases h.2 hp b hx with h1 | ⟨cur', h1⟩
        · omega
        · rw [h1] at hgg
          cases hgg
          exact hne rfl
    obtain ⟨⟨a, cap, rfl, h1, h2, h3⟩, h4⟩ := h
    obtain ⟨b, off, rfl, hc⟩ := h3 hp
    have hnb' := hnb b rfl
    refine ⟨⟨_, cap, rfl, h1, h2, fun _ => ⟨b, off, rfl, fun j hj => ?_⟩⟩, fun _ b' hb' => ?_⟩
    · rw [World.cell?_of_block (w := w) (a := ⟨b, off + j, none⟩) hnb']; exact hc j hj
    · have : b = b' := by simpa [Value.ownBlock] using hb'
      subst this
      rw [hnb']
      exact h4 hp b rfl
  · obtain ⟨⟨a, cap, rfl, h1, h2, _⟩, _⟩ := h
    exact ⟨⟨a, cap, rfl, h1, h2, fun hp' => absurd hp' hp⟩, fun hp' => absurd hp' hp⟩

/-- A list of rows of the call's own. -/
def MatOwn (f : α → Value) (te : TypeId) (base : Nat) (e : TypeId) (w : World) (v : Value) (L : List (List α)) : Prop :=
  ∃ vs : List Value, w.ownsRow base e 1 v L.length vs ∧ ∀ i, ElAt f te base w (vs.getD i nilS) (L.getD i [])

theorem MatOwn.start (w : World) (hb : base ≤ w.heap.size) : MatOwn f te base e (w.alloc (.cells #[] e)) (.slice (some ⟨w.heap.size, 0, none⟩) 0 0) [] :=
  ⟨[], World.ownsRow_made (base := base) (e := e) (size := 1) w #[] 0 hb (by decide) rfl, fun i => by simpa using ElAt.nil f te base _⟩

theorem MatOwn.mono (h : MatOwn f te base e w v L) (hb : Below w.heap.size w w') : MatOwn f te base e w' v L := by
  obtain ⟨vs, h1, h2⟩ := h
  exact ⟨vs, owns_kept h1 hb, fun i => (h2 i).mono hb⟩

theorem MatOwn.at (h : MatOwn f te base e w v L) : MatAt f w v L := by
  obtain ⟨vs, h1, h2⟩ := h
  have hl : vs.length = L.length := by have := h1.1; omega
  exact ⟨vs, ListAt.of_owns (n := L.length) (by rw [List.map_id]; exact h1), hl, fun i => (h2 i).1⟩

theorem getD_snoc {β : Type} (l : List β) (y d : β) (i : Nat) : (l ++ [y]).getD i d = if i < l.length then l.getD i d else if i = l.length then y else d := by
  simp only [List.getD_eq_getElem?_getD]
  by_cases h : i < l.length
  · rw [if_pos h, List.getElem?_append_left h]
  · rw [if_neg h, List.getElem?_append_right (by omega)]
    by_cases h2 : i = l.length
    · rw [if_pos h2]; subst h2; simp
    · rw [if_neg h2, List.getElem?_eq_none (by simp; omega)]; rfl

/-- One row more, behind an append. -/
theorem MatOwn.snoc {v' : Value} (hne : e ≠ te) (hown : w.ownsRow base e 1 v L.length vs) (hel : ∀ i, ElAt f te base w (vs.getD i nilS) (L.getD i [])) (hx : ElAt f te base w x r)
    (hown' : w'.ownsRow base e 1 v' (L.length + 1) (vs ++ [x])) (hg : w.grownBy w' v.ownBlock) : MatOwn f te base e w' v' (L ++ [r]) := by
  have hl : vs.length = L.length := by have := hown.1; omega
  refine ⟨vs ++ [x], by rw [List.length_append]; exact hown', fun i => ?_⟩
  rw [getD_snoc, getD_snoc, hl]
  by_cases h : i < L.length
  · rw [if_pos h, if_pos h]; exact (hel i).grown hne hown hg
  · rw [if_neg h, if_neg h]
    by_cases h2 : i = L.length
    · rw [if_pos h2, if_pos h2]; exact hx.grown hne hown hg
    · rw [if_neg h2, if_neg h2]; exact ElAt.nil f te base _

end

/-- A row that is filled from the front. -/
def fillTo {α : Type} (g : Nat → α) (z : α) (n k : Nat) : List α := (List.range n).map fun c => if c < k then g c else z

theorem fillTo_length {α : Type} (g : Nat → α) (z : α) (n k : Nat) : (fillTo g z n k).length = n := by simp [fillTo]

theorem fillTo_zero {α : Type} (g : Nat → α) (z : α) (n : Nat) : fillTo g z n 0 = List.replicate n z := by
  unfold fillTo
  apply List.ext_getElem
  · simp
  · intro i h1 h2; simp

theorem fillTo_set {α : Type} (g : Nat → α) (z : α) (n k : Nat) : (fillTo g z n k).set k (g k) = fillTo g z n (k + 1) := by
  unfold fillTo
  apply List.ext_getElem
  · simp
  · intro i h1 h2
    simp only [List.getElem_set, List.getElem_map, List.getElem_range]
    by_cases e : k = i
    · subst e; simp
    · rw [if_neg e]
      by_cases hi : i < k
      · rw [if_pos hi, if_pos (by omega)]
      · rw [if_neg hi, if_neg (by omega)]

theorem fillTo_all {α : Type} (g : Nat → α) (z : α) (n : Nat) : fillTo g z n n = (List.range n).map g := by
  unfold fillTo
  apply List.map_congr_left
  intro c hc
  rw [if_pos (List.mem_range.1 hc)]

theorem ownsRow_base {w : World} {b b' : Nat} {e : TypeId} {size n : Nat} {v : Value} {xs : List Value} (h : w.ownsRow b e size v n xs) (hb : b' ≤ b) : w.ownsRow b' e size v n xs := by
  refine ⟨h.1, ?_⟩
  rcases h.2 with h1 | ⟨g, cap, cur, h1, h2, h3⟩
  · exact .inl h1
  · exact .inr ⟨g, cap, cur, h1, by omega, h3⟩

theorem run_append_none_cap {P : Program} {w : World} (base : Nat) (t ty e : TypeId) (i : TypeInfo) (size : Nat) (ht : P.underlying t = some (.slice e)) (hi : P.info? e = some i)
    (v : Value) (n c : Nat) (xs : List Value) (hown : w.ownsRow base e size v n xs) :
    (Builtin.append_ #[t, t] ty #[v, .slice none 0 c]).run P w = .ok v w := by
  rcases hown.2 with ⟨rfl, rfl⟩ | ⟨g, cap, cur, rfl, _, _, hnc, _⟩
  · simp [Builtin.append_, run_underlying ht, sizeOf, typeInfo, hi, Builtin.lenOf, Builtin.firstCells]
  · simp [Builtin.append_, run_underlying ht, sizeOf, typeInfo, hi, Builtin.lenOf, Builtin.firstCells, hnc, storeCells]

theorem wpList_append_of {P : Program} {α : Type} {f : α → Value} (w : World) {ops : Array Oper} {rest : List Oper} {o : Oper} {a : Act} {Q : Exit → Act → World → Prop} (hgd : o.guard = none) (s x : Operand) (t : TypeId)
    (ho : o.op = .call { callee := .builtin .append, args := #[s, x], argTypes := #[t, t] })
    (base : Nat) (e : TypeId) (i : TypeInfo) (z : Value) (bytes : Nat) (ht : P.underlying t = some (.slice e)) (hi : P.info? e = some i) (hz : i.zero = some z)
    (hsize : i.size = 1) (hby : i.bytes = bytes) (hzs : z.cells.size = 1)
    (v : Value) (n : Nat) (xs : List Value) (hs : a.eval s = v) (hown : w.ownsRow base e 1 v n xs)
    (src : Value) (l : List α) (hx : a.eval x = src) (hl : ListAt f w src l) (h1 : ∀ y ∈ l, (f y).oneCell' = true)
    (h63 : n + l.length ≤ maxLen) (hbytes : (n + l.length) * bytes ≤ 140737488355328) (hbase : base ≤ w.heap.size)
    (h : ∀ v' w', w'.ownsRow base e 1 v' (n + l.length) (xs ++ l.map f) → w.grownBy w' v.ownBlock → wpList P ops Q rest (a.put o.dst v') w') : wpList P ops Q (o :: rest) a w := by
  obtain ⟨ad, cap, rfl, hc, hm, hcell⟩ := hl
  by_cases hp : 0 < l.length
  · obtain ⟨b, off, rfl, hcc⟩ := hcell hp
    refine wpList_append_own w hgd s x t ho base e i z 1 bytes ht hi hz hsize hby hzs (by decide) v n xs hs hown ⟨b, off, none⟩ l.length cap (l.map f) hx (by simp) ?_ ?_ h63 hbytes hbase fun v' w' h2 h3 _ => h v' w' h2 h3
    · intro j u hu
      have hj : j < l.length := by have := (List.getElem?_eq_some_iff.1 hu).1; simpa using this
      rw [Go.WideShapes.add_plain, hcc j hj]
      simp [hj] at hu
      rw [hu]
    · intro u hu
      obtain ⟨y, hy, rfl⟩ := List.mem_map.1 hu
      exact h1 y hy
  · have hl0 : l = [] := List.eq_nil_of_length_eq_zero (by omega)
    subst hl0
    cases ad with
    | none =>
      refine wpList_plain hgd fun K hK => ?_
      have hrun := run_append_none_cap (P := P) (w := w) base t o.type e i 1 ht hi v n cap xs hown
      unfold Oper.wp
      simp [execOp, ho, resolve, invoke, builtin, hs, hx, hrun, Result.andThen]
      exact hK _ _ (h v w (by simpa using hown) (World.grownBy.refl _ _))
    | some ad =>
      exact wpList_append_own w hgd s x t ho base e i z 1 bytes ht hi hz hsize hby hzs (by decide) v n xs hs hown ad 0 cap [] hx (by simp) (fun j u hu => by simp at hu) (fun u hu => by simp at hu) h63 hbytes hbase fun v' w' h2 h3 _ => h v' w' (by simpa using h2) h3

theorem own_open {w : World} {base n : Nat} {e : TypeId} {v : Value} {xs : List Value} (h : w.ownsRow base e 1 v n xs) :
    ∃ ao cap, v = .slice ao n cap ∧ n ≤ cap ∧ (0 < n → ∃ g, ao = some ⟨g, 0, none⟩) := by
  rcases h.2 with ⟨rfl, rfl⟩ | ⟨g, cap, cur, rfl, hb, hg, hc, _⟩
  · exact ⟨none, 0, rfl, Nat.le_refl _, fun h => by omega⟩
  · exact ⟨_, cap, rfl, hc, fun _ => ⟨g, rfl⟩⟩

theorem grown_trans {a b c : World} {row : Option Nat} (h : a.grownBy b row) (k : b.grownBy c row) : a.grownBy c row :=
  ⟨k.os.trans h.os, k.tape.trans h.tape, k.output.trans h.output, Nat.le_trans h.size k.size, fun j hj hr => (k.block j (Nat.lt_of_lt_of_le hj h.size) hr).trans (h.block j hj hr)⟩

section
variable {α : Type} {f : α → Value} {w w2 : World} {v v2 x : Value} {L : List (List α)} {te e : TypeId} {base : Nat} {r : List α} {vs : List Value}

/-- One row more, behind the laying of a literal of one and an append. -/
theorem MatOwn.app {o : Obj} (hne : e ≠ te) (hown : w.ownsRow base e 1 v L.length vs) (hel : ∀ i, ElAt f te base w (vs.getD i nilS) (L.getD i [])) (hx : ElAt f te base w x r)
    (hown' : w2.ownsRow base e 1 v2 (L.length + 1) (vs ++ [x])) (hg : (w.alloc o).grownBy w2 v.ownBlock) : MatOwn f te base e w2 v2 (L ++ [r]) :=
  have hb : Below w.heap.size w (w.alloc o) := (Below.refl _ _).alloc (Nat.le_refl _) _
  MatOwn.snoc hne (hown.alloc o) (fun i => (hel i).mono hb) (hx.mono hb) hown' hg

theorem MatAt.slices {vs : List Value} (h : ∀ i, ListAt f w (vs.getD i nilS) (L.getD i [])) : ∀ y ∈ vs, (id y).oneCell' = true := by
  intro y hy
  obtain ⟨i, hi, rfl⟩ := List.getElem_of_mem hy
  obtain ⟨a, cap, e, _⟩ := h i
  rw [List.getD_eq_getElem?_getD, List.getElem?_eq_getElem hi] at e
  have e' : vs[i] = .slice a (L.getD i []).length cap := e
  rw [e']; rfl

end

theorem getD_set {β : Type} (l : List β) (i k : Nat) (y d : β) (hi : i < l.length) : (l.set i y).getD k d = if k = i then y else l.getD k d := by
  simp only [List.getD_eq_getElem?_getD, List.getElem?_set]
  by_cases e : k = i
  · subst e; simp [hi]
  · rw [if_neg e, if_neg (fun h => e h.symm)]
end Go.Proofs.YtkhdjjcflbdegaaGreatDoor
end

section
/- Packages packed and geyserref02, what tells a column and how many there are: Has, Count; the document's Has, Bit. -/
namespace Go.Proofs.YtkhdjjcflbdegaaGreatDoor
open Go.RowKit Go.Extern.Stop Go.Stop Go.Extern

def hasI (ws : List Nat) (c : Int) : Bool := if c < 0 then false else bitW ws c.toNat

theorem shr_nat (x b : Nat) : ((x : Int) / 2 ^ b) = ((x / 2 ^ b : Nat) : Int) := by simp

theorem shr_and_one (x b : Nat) (hx : x < 18446744073709551616) : (bits BinOp.and IntKind.u64 ((x : Int) / 2 ^ b) 1 == 1) = x.testBit b := by
  have hle : x / 2 ^ b ≤ x := Nat.div_le_self _ _
  rw [shr_nat, and_lit (x / 2 ^ b) 1 1 rfl (by omega) (by decide), Nat.and_one_is_mod, Nat.testBit_eq_decide_div_mod_eq]
  by_cases h : x / 2 ^ b % 2 = 1
  · rw [h]; rfl
  · rw [decide_eq_false h, show x / 2 ^ b % 2 = 0 by omega]; rfl

theorem shr_mod_two (x b : Nat) : ((x : Int) / 2 ^ b % 2 == 1) = x.testBit b := by
  rw [shr_nat, Nat.testBit_eq_decide_div_mod_eq]
  by_cases h : x / 2 ^ b % 2 = 1
  · rw [decide_eq_true h, show ((x / 2 ^ b : Nat) : Int) % 2 = 1 by omega]; rfl
  · rw [decide_eq_false h, show ((x / 2 ^ b : Nat) : Int) % 2 = 0 by omega]; rfl

theorem Has_any {w : World} (v : Value) (ws : List Nat) (c : Int) (h : ListAt wordV w v ws) (hw : Word ws) (hc : -9223372036854775808 ≤ c ∧ c ≤ 9223372036854775807) :
    Calls Tryz.prog 87 #[v, .int .i64 c] w fun e w' => e = .returned (.bool (hasI ws c)) ∧ w = w' := by
  have hlen := h.len
  obtain ⟨a, cap, rfl, hcap, hcm, hcell⟩ := h
  by_cases h0 : c < 0
  · clear hcell
    go_enter Tryz.func87, Tryz.ntmps87
    go_wp2
    go_ret
    exact ⟨by rw [hasI, if_pos h0]; rfl, rfl⟩
  · obtain ⟨n, rfl⟩ : ∃ n : Nat, c = (n : Int) := ⟨c.toNat, by omega⟩
    have HR : Hid (hasI ws (n : Int) = bitW ws n) := by
      show _ = _
      rw [hasI, if_neg (by omega)]; rfl
    by_cases hl : n / 64 < ws.length
    · obtain ⟨b, off, rfl, hcc⟩ := hcell (by omega)
      have hx : w.cell? ⟨b, off + n / 64, none⟩ = some (.int .u64 (ws[n / 64] : Int)) := hcc _ hl
      have hxlt := hw _ (List.getElem_mem hl)
      have HB : Hid (bitW ws n = (ws[n / 64]).testBit (n % 64)) := by
        show _ = _
        unfold bitW
        rw [List.getD_eq_getElem?_getD, List.getElem?_eq_getElem hl]; rfl
      clear hcc hcell
      generalize ws[n / 64] = x at *
      have hl2 : (n : Int) / 64 < (ws.length : Int) := by omega
      go_enter Tryz.func87, Tryz.ntmps87
      go_wp2
      go_ret
      exact ⟨by rw [HR.out, HB.out, ← shr_and_one _ _ hxlt]; rfl, rfl⟩
    · have hl2 : ¬ (n : Int) / 64 < (ws.length : Int) := by omega
      clear hcell
      go_enter Tryz.func87, Tryz.ntmps87
      go_wp2
      go_ret
      exact ⟨by rw [HR.out, bitW_out _ _ (by omega)]; rfl, rfl⟩

theorem Bit_any {w : World} (x b : Nat) (hb : b < 64) :
    Calls Tryz.prog 112 #[.int .u64 (x : Int), .int .i64 (b : Int)] w fun e w' => e = .returned (.bool (x.testBit b)) ∧ w = w' := by
  go_enter Tryz.func112, Tryz.ntmps112
  go_wp2
  go_ret
  exact ⟨by rw [← shr_mod_two]; rfl, rfl⟩

theorem refHas_any {w : World} (v : Value) (ws : List Nat) (c : Int) (h : ListAt wordV w v ws) (hw : Word ws) (hlen : ws.length ≤ 100000) (hc : -9223372036854775808 ≤ c ∧ c ≤ 9223372036854775807) :
    Calls Tryz.prog 95 #[v, .int .i64 c] w fun e w' => e = .returned (.bool (hasI ws c)) ∧ w = w' := by
  obtain ⟨a, cap, rfl, hcap, hcm, hcell⟩ := h
  by_cases h0 : c < 0
  · clear hcell
    go_enter Tryz.func95, Tryz.ntmps95
    go_wp2
    go_ret
    exact ⟨by rw [hasI, if_pos h0]; rfl, rfl⟩
  · obtain ⟨n, rfl⟩ : ∃ n : Nat, c = (n : Int) := ⟨c.toNat, by omega⟩
    have HR : Hid (hasI ws (n : Int) = bitW ws n) := by
      show _ = _
      rw [hasI, if_neg (by omega)]; rfl
    by_cases hl : n / 64 < ws.length
    · obtain ⟨b, off, rfl, hcc⟩ := hcell (by omega)
      have hx : w.cell? ⟨b, off + n / 64, none⟩ = some (.int .u64 (ws[n / 64] : Int)) := hcc _ hl
      have hxlt := hw _ (List.getElem_mem hl)
      have HB : Hid (bitW ws n = (ws[n / 64]).testBit (n % 64)) := by
        show _ = _
        unfold bitW
        rw [List.getD_eq_getElem?_getD, List.getElem?_eq_getElem hl]; rfl
      clear hcc hcell
      generalize ws[n / 64] = x at *
      have hl2 : (n : Int) / 64 < (ws.length : Int) := by omega
      have hl3 : (n : Int) < 64 * (ws.length : Int) := by omega
      go_enter Tryz.func95, Tryz.ntmps95
      go_wp2_with fail
      refine (Bit_any x (n % 64) (by omega)).mono ?_
      rintro e w' ⟨rfl, rfl⟩
      go_wp2
      go_ret
      exact ⟨by rw [HR.out, HB.out]; rfl, rfl⟩
    · have hl3 : ¬ (n : Int) < 64 * (ws.length : Int) := by omega
      clear hcell
      go_enter Tryz.func95, Tryz.ntmps95
      go_wp2
      go_ret
      exact ⟨by rw [HR.out, bitW_out _ _ (by omega)]; rfl, rfl⟩

set_option maxRecDepth 1000000 in
theorem Count_any {w : World} (v : Value) (ws : List Nat) (h : ListAt wordV w v ws) (hw : Word ws) (hlen : ws.length ≤ 100000) :
    Calls Tryz.prog 88 #[v] w fun e w' => e = .returned (.int .i64 ((colsOf ws).length : Nat)) ∧ w = w' := by
  obtain ⟨a, cap, rfl, hcap, hcm, hcell⟩ := h
  have HC := Lib.hid hcell
  have HW := Lib.hid hw
  clear hcell hw
  go_enter Tryz.func88, Tryz.ntmps88
  go_wp2
  go_loopw [3, 8] (fun n i wr => ∃ k : Nat, k ≤ ws.length ∧ i = .int .i64 k ∧ n = .int .i64 ((colsTo ws (64 * k)).length : Nat) ∧ w = wr) (fun _ i _ => ws.length - (intOf i).toNat)
  case atStart => exact ⟨0, Nat.zero_le _, rfl, rfl, rfl⟩
  case round =>
    obtain ⟨k, hk, rfl, rfl, rfl⟩ := hrel
    have hm := colsTo_length_le ws (64 * k)
    by_cases hlt : k < ws.length
    · obtain ⟨b, off, rfl, hcc⟩ := HC.out (by omega)
      have hx : w.cell? ⟨b, off + k, none⟩ = some (.int .u64 (ws[k] : Int)) := hcc k hlt
      have hxlt := HW.out _ (List.getElem_mem hlt)
      have HS : Hid ((colsTo ws (64 * (k + 1))).length = (colsTo ws (64 * k)).length + pop ws[k]) := by
        show _ = _
        rw [colsTo_word, List.getD_eq_getElem?_getD, List.getElem?_eq_getElem hlt]; rfl
      clear hcc
      generalize ws[k] = x at *
      generalize (colsTo ws (64 * k)).length = m at *
      have hp := pop_le x
      go_wp2_with fail
      refine (Ones64_any x hxlt _).mono ?_
      rintro e w1 ⟨rfl, rfl⟩
      go_wp2
      go_roundw
      case rel => exact ⟨k + 1, by omega, by go_num, by rw [HS.out]; go_num, trivial⟩
      case measure => simp [intOf]; omega
    · have hk' : k = ws.length := by omega
      go_wp2
      go_ret
      exact ⟨by rw [hk']; rfl, rfl⟩
end Go.Proofs.YtkhdjjcflbdegaaGreatDoor
end

section
/- geyserref02: In, Size (were in PkRead). -/
namespace Go.Proofs.YtkhdjjcflbdegaaGreatDoor
open Go.RowKit Go.Extern.Stop Go.Stop Go.Extern

set_option maxRecDepth 1000000 in
theorem In_any {w : World} (v : Value) (l : List Int) (n : Int) (h : ListAt intV w v l) :
    Calls Tryz.prog 81 #[v, .int .i64 n] w fun e w' => e = .returned (.bool (decide (n ∈ l))) ∧ w = w' := by
  have hlen := h.len
  obtain ⟨a, cap, rfl, hcap, hcm, hcell⟩ := h
  have HC := Lib.hid hcell
  clear hcell
  go_enter Tryz.func81, Tryz.ntmps81
  go_wp2
  go_loopw [5] (fun i wr => ∃ k : Nat, k ≤ l.length ∧ i = .int .i64 k ∧ (∀ j (hj : j < l.length), j < k → l[j] ≠ n) ∧ w = wr) (fun i _ => l.length - (intOf i).toNat)
  case atStart => exact ⟨0, Nat.zero_le _, rfl, fun j _ hj => by omega, rfl⟩
  case round =>
    obtain ⟨k, hk, rfl, hz, rfl⟩ := hrel
    have HZ := Lib.hid hz
    clear hz
    by_cases hlt : k < l.length
    · obtain ⟨b, off, rfl, hcc⟩ := HC.out (by omega)
      have hx : w.cell? ⟨b, off + k, none⟩ = some (.int .i64 l[k]) := hcc k hlt
      have HM : Hid (l[k] ∈ l) := Lib.hid (List.getElem_mem hlt)
      have HX : Hid (l[k] = l[k]) := Lib.hid rfl
      clear hcc
      by_cases he : l[k] = n
      · rw [he] at hx
        have hb : (n == n) = true := by simp
        have HM2 : Hid (n ∈ l) := by rw [← he]; exact HM
        clear he HM HX
        go_wp2
        go_ret
        exact ⟨by rw [decide_eq_true HM2.out]; rfl, rfl⟩
      · have hb : (l[k] == n) = false := by simpa using he
        have HE := Lib.hid he
        clear he HM HX
        generalize hy : l[k] = y at hx hb
        have HY := Lib.hid hy
        clear hy
        go_wp2
        go_roundw
        case rel => exact ⟨k + 1, by omega, by go_num, fun j hj hjk => by
          by_cases e : j = k
          · subst e; exact HE.out
          · exact HZ.out j hj (by omega), trivial⟩
        case measure => simp [intOf]; omega
    · have hk' : k = l.length := by omega
      go_wp2
      go_ret
      have hn : ¬ n ∈ l := by
        intro hmem
        obtain ⟨j, hj, e⟩ := List.getElem_of_mem hmem
        exact HZ.out j hj (by omega) e
      exact ⟨by rw [decide_eq_false hn]; rfl, rfl⟩

def outI (l : List Int) (n : Int) : Bool := l.any fun c => decide (c < 0) || decide (n ≤ c)

def sizeI (n : Int) : Int := if n < 0 ∨ 4096 < n then 0 else (n + 63) / 64

theorem refSize_any {w : World} (n : Int) (hn : -9223372036854775808 ≤ n ∧ n ≤ 9223372036854775807) :
    Calls Tryz.prog 123 #[.int .i64 n] w fun e w' => e = .returned (.int .i64 (sizeI n)) ∧ w = w' := by
  by_cases h0 : n < 0
  · go_enter Tryz.func123, Tryz.ntmps123
    go_wp2
    go_ret
    exact ⟨by rw [sizeI, if_pos (.inl h0)]; rfl, rfl⟩
  · by_cases h1 : 4096 < n
    · go_enter Tryz.func123, Tryz.ntmps123
      go_wp2
      go_ret
      exact ⟨by rw [sizeI, if_pos (.inr h1)]; rfl, rfl⟩
    · go_enter Tryz.func123, Tryz.ntmps123
      go_wp2
      go_loopw [3] (fun i wr => ∃ k : Nat, (k : Int) ≤ (n + 63) / 64 ∧ i = .int .i64 k ∧ w = wr) (fun i _ => 100 - (intOf i).toNat)
      case atStart => exact ⟨0, by omega, rfl, rfl⟩
      case round =>
        obtain ⟨k, hk, rfl, rfl⟩ := hrel
        by_cases hlt : 64 * (k : Int) < n
        · go_wp2
          go_roundw
          case rel => exact ⟨k + 1, by omega, by go_num, trivial⟩
          case measure => simp [intOf]; omega
        · go_wp2
          go_ret
          exact ⟨by rw [sizeI, if_neg (by omega), show (n + 63) / 64 = (k : Int) by omega]; rfl, rfl⟩

theorem neqBool (p q r : Bool) (h : (p != q) = r) (w : World) : (binOp .neq 4 (.bool p) (.bool q)).run Tryz.prog w = .ok (.bool r) w := by
  subst h; cases p <;> cases q <;> kernel_rfl

end Go.Proofs.YtkhdjjcflbdegaaGreatDoor
end

section
/- Packages packed and geyserref02: the document's Pack and Check; packed.Pack, Xor, Odd. -/
namespace Go.Proofs.YtkhdjjcflbdegaaGreatDoor
open Go.RowKit Go.Extern.Stop Go.Stop Go.Extern

/-! ### the document's Pack -/
def inP (l : List Int) (c : Nat) : Bool := decide ((c : Int) ∈ l)
def packW (l : List Int) (k : Nat) : List Nat := (List.range k).map fun i => bitsDown (inP l) i 64
theorem packW_succ (l : List Int) (k : Nat) : packW l (k + 1) = packW l k ++ [bitsDown (inP l) k 64] := by unfold packW; rw [List.range_succ, List.map_append]; rfl
theorem packW_length (l : List Int) (k : Nat) : (packW l k).length = k := by simp [packW]
theorem sizeI_nat (n : Int) : ∃ k : Nat, sizeI n = (k : Int) ∧ k ≤ 64 := by
  unfold sizeI
  split
  · exact ⟨0, rfl, by omega⟩
  · exact ⟨((n + 63) / 64).toNat, by omega, by omega⟩

set_option maxRecDepth 1000000 in
set_option maxHeartbeats 4000000 in
theorem refPack_own {w : World} (v : Value) (l : List Int) (n : Int) (h : ListAt intV w v l) (hn : -9223372036854775808 ≤ n ∧ n ≤ 9223372036854775807) :
    Calls Tryz.prog 94 #[v, .int .i64 n] w fun e w' => ∃ v', e = .returned v' ∧ w'.ownsRow w.heap.size 163 1 v' (sizeI n).toNat ((packW l (sizeI n).toNat).map wordV) ∧ Below w.heap.size w w' := by
  obtain ⟨i0, hi, hz0, hz1, hz2⟩ := info_parts info_u64
  have H1 := Lib.hid h
  have HN := Lib.hid hn
  obtain ⟨a1, cap1, rfl, -, -, -⟩ := h
  obtain ⟨K, hK, hK64⟩ := sizeI_nat n
  have HK : Hid ((sizeI n).toNat = K) := Lib.hid (by omega)
  clear hn
  go_enter Tryz.func94, Tryz.ntmps94
  go_wp2
  go_loopw [5, 6] (fun v i wr => ∃ k : Nat, k ≤ K ∧ i = .int .i64 k ∧ wr.ownsRow w.heap.size 163 1 v (packW l k).length ((packW l k).map wordV) ∧ Below w.heap.size w wr) (fun _ i _ => K - (intOf i).toNat)
  case atStart => exact ⟨0, Nat.zero_le _, rfl, World.ownsRow_made (base := w.heap.size) (e := 163) (size := 1) w #[] 0 (Nat.le_refl _) (by decide) rfl, (Below.refl _ _).alloc (Nat.le_refl _) _⟩
  case round =>
    obtain ⟨k, hk, rfl, hown, hbel⟩ := hrel
    have hsz := hbel.size
    have hq := packW_length l k
    have HO1 := Lib.hid hown
    have HB := Lib.hid hbel
    clear hown hbel
    go_wp2_with fail
    refine (refSize_any n HN.out).mono ?_
    rintro e w1 ⟨rfl, rfl⟩
    rw [hK]
    by_cases hlt : k < K
    · go_wp2_with fail
      go_loopw [7, 8] (fun x b wq => ∃ m : Nat, m ≤ 64 ∧ b = .int .i64 (63 - (m : Int)) ∧ x = .int .u64 ((bitsDown (inP l) k m : Nat) : Int) ∧ wr = wq) (fun _ b _ => (intOf b + 1).toNat)
      case atStart => exact ⟨0, by omega, rfl, rfl, rfl⟩
      case round =>
        obtain ⟨m, hm, rfl, rfl, rfl⟩ := hrel
        by_cases hlm : m < 64
        · obtain ⟨hxlt, -⟩ := bitsDown_spec (inP l) k m (by omega)
          have h63 : 2 ^ m ≤ 2 ^ 63 := Nat.pow_le_pow_right (by decide) (by omega)
          have hxb : bitsDown (inP l) k m < 9223372036854775808 := by omega
          have HS : Hid (bitsDown (inP l) k (m + 1) = 2 * bitsDown (inP l) k m + (inP l (64 * k + (63 - m))).toNat) := Lib.hid rfl
          have HP : Hid (inP l (64 * k + (63 - m)) = decide ((64 * (k : Int) + (63 - (m : Int))) ∈ l)) := Lib.hid (by unfold inP; congr 2; omega)
          clear hxlt h63
          generalize bitsDown (inP l) k m = x at *
          have hw2 : IntKind.u64.wrap (2 * (x : Int)) = ((2 * x : Nat) : Int) := by rw [IntKind.wrap_u64]; omega
          have hw3 : IntKind.u64.wrap (((2 * x : Nat) : Int) + 1) = ((2 * x + 1 : Nat) : Int) := by rw [IntKind.wrap_u64]; omega
          by_cases hb : (64 * (k : Int) + (63 - (m : Int))) ∈ l
          · have HD := Lib.hid (decide_eq_true hb)
            clear hb
            go_wp2_with fail
            refine (In_any _ l (64 * (k : Int) + (63 - (m : Int))) (H1.out.mono HB.out)).mono ?_
            rintro e w1 ⟨rfl, rfl⟩
            rw [HD.out]
            go_wp2
            go_roundw
            case rel => exact ⟨m + 1, by omega, by go_num, by rw [HS.out, HP.out, HD.out]; exact congrArg (Value.int .u64) (show (2 * (x : Int) + 1) = ((2 * x + 1 : Nat) : Int) by omega), trivial⟩
            case measure => simp [intOf]; omega
          · have HD := Lib.hid (decide_eq_false hb)
            clear hb
            go_wp2_with fail
            refine (In_any _ l (64 * (k : Int) + (63 - (m : Int))) (H1.out.mono HB.out)).mono ?_
            rintro e w1 ⟨rfl, rfl⟩
            rw [HD.out]
            go_wp2
            go_roundw
            case rel => exact ⟨m + 1, by omega, by go_num, by rw [HS.out, HP.out, HD.out]; exact congrArg (Value.int .u64) (show (2 * (x : Int)) = ((2 * x + 0 : Nat) : Int) by omega), trivial⟩
            case measure => simp [intOf]; omega
        · have hm64 : m = 64 := by omega
          subst hm64
          have HS := Lib.hid (packW_succ l k)
          have HO := Lib.hid (HO1.out.alloc (.cells #[.int .u64 ((bitsDown (inP l) k 64 : Nat) : Int)] 163))
          rw [hq] at HO
          have HQ := Lib.hid hq
          generalize bitsDown (inP l) k 64 = x at *
          go_wp2_with (at_builtin; refine wpList_append_own _ rfl (.tmp 30) (.tmp 32) 79 rfl w.heap.size 163 i0 (.int .u64 0) 1 8 Tryz.underlying79 hi hz0 hz1 hz2 rfl (by decide) u5 k ((packW l k).map wordV) rfl HO.out ⟨wr.heap.size, 0, none⟩ 1 1 [.int .u64 (x : Int)] rfl rfl (cell_one_new _ _ _) (fun x hx => by simp at hx; subst hx; rfl) (by unfold maxLen; omega) (by omega) (by simp; omega) ?_; intro v2 w2 hown1 hgrow1 _; have hb2 := Lib.hid ((HB.out.alloc hsz _).grown hgrow1 (by simp; omega) (fun k hk => (HO.out.lt k hk).1)); have ho2 := Lib.hid hown1; clear hown1 hgrow1)
          go_roundw
          case rel => exact ⟨k + 1, by omega, by go_num, by rw [HS.out]; exact own_snoc HQ.out ho2.out, hb2.out⟩
          case measure => simp [intOf]; omega
    · have hk' : k = K := by omega
      go_wp2
      go_ret
      exact ⟨u5, rfl, by have := HO1.out; rw [hk', packW_length] at this; rw [HK.out]; exact this, HB.out⟩

theorem refPack_any {w : World} (v : Value) (l : List Int) (n : Int) (h : ListAt intV w v l) (hn : -9223372036854775808 ≤ n ∧ n ≤ 9223372036854775807) :
    Calls Tryz.prog 94 #[v, .int .i64 n] w fun e w' => ∃ v', e = .returned v' ∧ ListAt wordV w' v' (packW l (sizeI n).toNat) ∧ Below w.heap.size w w' := by
  refine (refPack_own v l n h hn).mono ?_
  rintro e w' ⟨v', he, ho, hb⟩
  exact ⟨v', he, .of_owns ho, hb⟩

/-! ### the document's Check -/
def checkI (l : List Int) (n : Int) : Int := if n < 0 ∨ 4096 < n ∨ outI l n = true then 1 else if l.Nodup then 0 else 2

theorem nodup_snoc {α : Type} [DecidableEq α] (l : List α) (x : α) (h : l.Nodup) (hx : x ∉ l) : (l ++ [x]).Nodup := by
  unfold List.Nodup at *
  rw [List.pairwise_append]
  exact ⟨h, by simp, fun a ha b hb => by simp at hb; subst hb; intro e; exact hx (e ▸ ha)⟩
theorem not_nodup_of {l : List Int} {k : Nat} (hk : k < l.length) (h : l[k] ∈ l.take k) : ¬ l.Nodup := by
  intro hn
  have h2 : (l.take (k + 1)).Nodup := hn.sublist (List.take_sublist _ _)
  rw [List.take_succ_eq_append_getElem hk] at h2
  unfold List.Nodup at h2
  rw [List.pairwise_append] at h2
  exact h2.2.2 _ h _ (by simp) rfl

end Go.Proofs.YtkhdjjcflbdegaaGreatDoor
end
