/- Lists of rows in memory: as they are read (MatAt), as a call makes them (ElAt, MatOwn); append of a slice that is only read; a row filled from the front. -/
import Derived.Test.YtgbogglalnafeaaDoorSl
import Derived.Laws.AppendOwnNone
import Derived.Deep.Draws
namespace Go.Proofs.YtgbogglalnafeaaDoor
open Go.RowKit Go.Extern.Stop Go.Stop Go.Extern

theorem ListAt.take {α : Type} {f : α → Value} {w : World} {a : Option Addr} {cap : Nat} {l : List α} (h : ListAt f w (.slice a l.length cap) l) (k : Nat) (hk : k ≤ l.length) : ListAt f w (.slice a k cap) (l.take k) := by
  obtain ⟨a', cap', e, hc, hm, h⟩ := h
  cases e
  have hl : (l.take k).length = k := by rw [List.length_take]; omega
  refine ⟨a, cap, by rw [hl], by omega, hm, fun hp => ?_⟩
  obtain ⟨b, off, rfl, hcell⟩ := h (by omega)
  refine ⟨b, off, rfl, fun j hj => ?_⟩
  rw [hcell j (by omega)]
  simp

theorem own_snoc {α : Type} {f : α → Value} {w : World} {B q : Nat} {e : TypeId} {v : Value} {l : List α} {x : α} (hq : l.length = q) (h : w.ownsRow B e 1 v (q + 1) (l.map f ++ [f x])) :
    w.ownsRow B e 1 v (l ++ [x]).length ((l ++ [x]).map f) := by
  rw [List.map_append, List.length_append]
  subst hq
  exact h

theorem below_draws {B : Nat} {a w : World} (h : Below B a w) (n : Nat) : Below B a (w.drewN n) := h.trans ⟨rfl, rfl, rfl, Nat.le_refl _, fun _ _ => rfl⟩

abbrev I64 (n : Int) : Prop := -9223372036854775808 ≤ n ∧ n ≤ 9223372036854775807

abbrev nilS : Value := .slice none 0 0

/-- A slice whose elements are slices, which read as the rows L. -/
def MatAt {α : Type} (f : α → Value) (w : World) (v : Value) (L : List (List α)) : Prop :=
  ∃ vs : List Value, ListAt id w v vs ∧ vs.length = L.length ∧ ∀ i, ListAt f w (vs.getD i nilS) (L.getD i [])

section
variable {α : Type} {f : α → Value} {w w' : World} {v : Value} {L : List (List α)}

theorem MatAt.mono (h : MatAt f w v L) (hb : Below w.heap.size w w') : MatAt f w' v L := by
  obtain ⟨vs, h1, h2, h3⟩ := h
  exact ⟨vs, h1.mono hb, h2, fun i => (h3 i).mono hb⟩

theorem MatAt.len (h : MatAt f w v L) : L.length ≤ 9223372036854775807 := by
  obtain ⟨vs, h1, h2, _⟩ := h
  have := h1.len
  omega

theorem MatAt.opens (h : MatAt f w v L) : ∃ a cap, v = .slice a L.length cap ∧ L.length ≤ cap ∧ cap ≤ maxLen ∧
    (0 < L.length → ∃ b off, a = some ⟨b, off, none⟩ ∧ ∀ j, j < L.length → ∃ x, w.cell? ⟨b, off + j, none⟩ = some x ∧ ListAt f w x (L.getD j [])) := by
  obtain ⟨vs, ⟨a, cap, rfl, h1, h2, h3⟩, h4, h5⟩ := h
  refine ⟨a, cap, by rw [h4], by omega, h2, fun hp => ?_⟩
  obtain ⟨b, off, rfl, hc⟩ := h3 (by omega)
  refine ⟨b, off, rfl, fun j hj => ⟨vs.getD j nilS, ?_, h5 j⟩⟩
  rw [hc j (by omega)]
  have : j < vs.length := by omega
  simp [this]

theorem MatAt.take {a : Option Addr} {cap : Nat} (h : MatAt f w (.slice a L.length cap) L) (k : Nat) (hk : k ≤ L.length) : MatAt f w (.slice a k cap) (L.take k) := by
  obtain ⟨vs, h1, h2, h3⟩ := h
  rw [← h2] at h1
  refine ⟨vs.take k, h1.take k (by omega), by simp; omega, fun i => ?_⟩
  by_cases hi : i < k
  · have := h3 i
    simp only [List.getD_eq_getElem?_getD, List.getElem?_take, if_pos hi] at this ⊢
    exact this
  · simp only [List.getD_eq_getElem?_getD, List.getElem?_take, if_neg hi]
    exact ListAt.nil f w

theorem MatAt.drop_one {b off cap : Nat} (h : MatAt f w (.slice (some ⟨b, off, none⟩) L.length cap) L) (hp : 0 < L.length) : MatAt f w (.slice (some ⟨b, off + 1, none⟩) (L.length - 1) (cap - 1)) (L.drop 1) := by
  obtain ⟨vs, ⟨a, cap', e, h1, h2, h3⟩, h4, h5⟩ := h
  obtain ⟨rfl, -, rfl⟩ : some ⟨b, off, none⟩ = a ∧ L.length = vs.length ∧ cap = cap' := by simpa using e
  obtain ⟨b', off', e, hc⟩ := h3 (by omega)
  cases e
  refine ⟨vs.drop 1, ⟨_, cap - 1, by rw [List.length_drop, h4], by rw [List.length_drop]; omega, by omega, fun _ => ⟨b, off + 1, rfl, fun j hj => ?_⟩⟩, by simp; omega, fun i => ?_⟩
  · rw [List.length_drop] at hj
    rw [Nat.add_assoc, hc (1 + j) (by omega)]
    simp [Nat.add_comm]
  · have := h5 (1 + i)
    simp only [List.getD_eq_getElem?_getD, List.getElem?_drop] at this ⊢
    exact this

theorem MatAt.nil (f : α → Value) (w : World) : MatAt f w nilS [] := ⟨[], ListAt.nil _ _, rfl, fun i => by simpa using ListAt.nil f w⟩

/-- An element that lies where its kind of elements lies, or in what was there ahead of the call. -/
def ElAt (f : α → Value) (te : TypeId) (base : Nat) (w : World) (x : Value) (r : List α) : Prop :=
  ListAt f w x r ∧ (0 < r.length → ∀ b, x.ownBlock = some b → b < base ∨ ∃ cur, w.heap[b]? = some (.cells cur te (0, 0)))

variable {te e : TypeId} {base n : Nat} {x : Value} {r : List α} {vs : List Value}

theorem ListAt.block (h : ListAt f w x r) (hp : 0 < r.length) : ∀ b, x.ownBlock = some b → b < w.heap.size := by
  obtain ⟨a, cap, rfl, _, _, hcell⟩ := h
  obtain ⟨b', off, rfl, hc⟩ := hcell hp
  intro b hb
  have : b' = b := by simpa [Value.ownBlock] using hb
  subst this
  exact World.block_lt_of_cell? w _ (hc 0 hp)

theorem ElAt.old (h : ListAt f w x r) (hb : Below w.heap.size w w') : ElAt f te w.heap.size w' x r := ⟨h.mono hb, fun hp b hx => .inl (h.block hp b hx)⟩

theorem ElAt.own {base' : Nat} (h : w.ownsRow base' te 1 x n (r.map f)) : ElAt f te base w x r := by
  refine ⟨ListAt.of_owns h, fun _ b hx => ?_⟩
  rcases h.2 with ⟨rfl, _⟩ | ⟨g, cap, cur, rfl, _, hg, _⟩
  · simp [Value.ownBlock] at hx
  · have : g = b := by simpa [Value.ownBlock] using hx
    subst this
    exact .inr ⟨cur, hg⟩

theorem ElAt.mono (h : ElAt f te base w x r) (hb : Below w.heap.size w w') : ElAt f te base w' x r := by
  refine ⟨h.1.mono hb, fun hp b hx => ?_⟩
  rcases h.2 hp b hx with h1 | ⟨cur, h1⟩
  · exact .inl h1
  · exact .inr ⟨cur, by rw [hb.block b (h.1.block hp b hx)]; exact h1⟩

theorem ElAt.nil (f : α → Value) (te : TypeId) (base : Nat) (w : World) : ElAt f te base w nilS [] := ⟨ListAt.nil f w, fun h => by simp at h⟩

theorem ElAt.grown (h : ElAt f te base w x r) (hne : e ≠ te) (hown : w.ownsRow base e 1 v n vs) (hg : w.grownBy w' v.ownBlock) : ElAt f te base w' x r := by
  by_cases hp : 0 < r.length
  · have hnb : ∀ b, x.ownBlock = some b → w'.heap[b]? = w.heap[b]? := fun b hx => by
      refine hg.block b (h.1.block hp b hx) fun hv => ?_
      rcases hown.2 with ⟨rfl, _⟩ | ⟨g, cap, cur, rfl, hbg, hgg, _⟩
      · simp [Value.ownBlock] at hv
      · have : b = g := by simpa [Value.ownBlock] using hv
        subst this
        rcases h.2 hp b hx with h1 | ⟨cur', h1⟩
        · omega
        · rw [h1] at hgg
          cases hgg
          exact hne rfl
    obtain ⟨⟨a, cap, rfl, h1, h2, h3⟩, h4⟩ := h
    obtain ⟨b, off, rfl, hc⟩ := h3 hp
    have hnb' := hnb b rfl
    refine ⟨⟨_, cap, rfl, h1, h2, fun _ => ⟨b, off, rfl, fun j hj => ?_⟩⟩, fun _ b' hb' => ?_⟩
    · rw [World.cell?_of_block (w := w) (a := ⟨b, off + j, none⟩) hnb']; exact hc j hj
    · have : b = b' := by simpa [Value.ownBlock] using hb'
      subst this
      rw [hnb']
      exact h4 hp b rfl
  · obtain ⟨⟨a, cap, rfl, h1, h2, _⟩, _⟩ := h
    exact ⟨⟨a, cap, rfl, h1, h2, fun hp' => absurd hp' hp⟩, fun hp' => absurd hp' hp⟩

/-- A list of rows of the call's own. -/
def MatOwn (f : α → Value) (te : TypeId) (base : Nat) (e : TypeId) (w : World) (v : Value) (L : List (List α)) : Prop :=
  ∃ vs : List Value, w.ownsRow base e 1 v L.length vs ∧ ∀ i, ElAt f te base w (vs.getD i nilS) (L.getD i [])

theorem MatOwn.start (w : World) (hb : base ≤ w.heap.size) : MatOwn f te base e (w.alloc (.cells #[] e)) (.slice (some ⟨w.heap.size, 0, none⟩) 0 0) [] :=
  ⟨[], World.ownsRow_made (base := base) (e := e) (size := 1) w #[] 0 hb (by decide) rfl, fun i => by simpa using ElAt.nil f te base _⟩

theorem MatOwn.mono (h : MatOwn f te base e w v L) (hb : Below w.heap.size w w') : MatOwn f te base e w' v L := by
  obtain ⟨vs, h1, h2⟩ := h
  exact ⟨vs, owns_kept h1 hb, fun i => (h2 i).mono hb⟩

theorem MatOwn.at (h : MatOwn f te base e w v L) : MatAt f w v L := by
  obtain ⟨vs, h1, h2⟩ := h
  have hl : vs.length = L.length := by have := h1.1; omega
  exact ⟨vs, ListAt.of_owns (n := L.length) (by rw [List.map_id]; exact h1), hl, fun i => (h2 i).1⟩

theorem getD_snoc {β : Type} (l : List β) (y d : β) (i : Nat) : (l ++ [y]).getD i d = if i < l.length then l.getD i d else if i = l.length then y else d := by
  simp only [List.getD_eq_getElem?_getD]
  by_cases h : i < l.length
  · rw [if_pos h, List.getElem?_append_left h]
  · rw [if_neg h, List.getElem?_append_right (by omega)]
    by_cases h2 : i = l.length
    · rw [if_pos h2]; subst h2; simp
    · rw [if_neg h2, List.getElem?_eq_none (by simp; omega)]; rfl

/-- One row more, behind an append. -/
theorem MatOwn.snoc {v' : Value} (hne : e ≠ te) (hown : w.ownsRow base e 1 v L.length vs) (hel : ∀ i, ElAt f te base w (vs.getD i nilS) (L.getD i [])) (hx : ElAt f te base w x r)
    (hown' : w'.ownsRow base e 1 v' (L.length + 1) (vs ++ [x])) (hg : w.grownBy w' v.ownBlock) : MatOwn f te base e w' v' (L ++ [r]) := by
  have hl : vs.length = L.length := by have := hown.1; omega
  refine ⟨vs ++ [x], by rw [List.length_append]; exact hown', fun i => ?_⟩
  rw [getD_snoc, getD_snoc, hl]
  by_cases h : i < L.length
  · rw [if_pos h, if_pos h]; exact (hel i).grown hne hown hg
  · rw [if_neg h, if_neg h]
    by_cases h2 : i = L.length
    · rw [if_pos h2, if_pos h2]; exact hx.grown hne hown hg
    · rw [if_neg h2, if_neg h2]; exact ElAt.nil f te base _

end

/-- A row that is filled from the front. -/
def fillTo {α : Type} (g : Nat → α) (z : α) (n k : Nat) : List α := (List.range n).map fun c => if c < k then g c else z

theorem fillTo_length {α : Type} (g : Nat → α) (z : α) (n k : Nat) : (fillTo g z n k).length = n := by simp [fillTo]

theorem fillTo_zero {α : Type} (g : Nat → α) (z : α) (n : Nat) : fillTo g z n 0 = List.replicate n z := by
  unfold fillTo
  apply List.ext_getElem
  · simp
  · intro i h1 h2; simp

theorem fillTo_set {α : Type} (g : Nat → α) (z : α) (n k : Nat) : (fillTo g z n k).set k (g k) = fillTo g z n (k + 1) := by
  unfold fillTo
  apply List.ext_getElem
  · simp
  · intro i h1 h2
    simp only [List.getElem_set, List.getElem_map, List.getElem_range]
    by_cases e : k = i
    · subst e; simp
    · rw [if_neg e]
      by_cases hi : i < k
      · rw [if_pos hi, if_pos (by omega)]
      · rw [if_neg hi, if_neg (by omega)]

theorem fillTo_all {α : Type} (g : Nat → α) (z : α) (n : Nat) : fillTo g z n n = (List.range n).map g := by
  unfold fillTo
  apply List.map_congr_left
  intro c hc
  rw [if_pos (List.mem_range.1 hc)]

theorem ownsRow_base {w : World} {b b' : Nat} {e : TypeId} {size n : Nat} {v : Value} {xs : List Value} (h : w.ownsRow b e size v n xs) (hb : b' ≤ b) : w.ownsRow b' e size v n xs := by
  refine ⟨h.1, ?_⟩
  rcases h.2 with h1 | ⟨g, cap, cur, h1, h2, h3⟩
  · exact .inl h1
  · exact .inr ⟨g, cap, cur, h1, by omega, h3⟩

theorem run_append_none_cap {P : Program} {w : World} (base : Nat) (t ty e : TypeId) (i : TypeInfo) (size : Nat) (ht : P.underlying t = some (.slice e)) (hi : P.info? e = some i)
    (v : Value) (n c : Nat) (xs : List Value) (hown : w.ownsRow base e size v n xs) :
    (Builtin.append_ #[t, t] ty #[v, .slice none 0 c]).run P w = .ok v w := by
  rcases hown.2 with ⟨rfl, rfl⟩ | ⟨g, cap, cur, rfl, _, _, hnc, _⟩
  · simp [Builtin.append_, run_underlying ht, sizeOf, typeInfo, hi, Builtin.lenOf, Builtin.firstCells]
  · simp [Builtin.append_, run_underlying ht, sizeOf, typeInfo, hi, Builtin.lenOf, Builtin.firstCells, hnc, storeCells]

theorem wpList_append_of {P : Program} {α : Type} {f : α → Value} (w : World) {ops : Array Oper} {rest : List Oper} {o : Oper} {a : Act} {Q : Exit → Act → World → Prop} (hgd : o.guard = none) (s x : Operand) (t : TypeId)
    (ho : o.op = .call { callee := .builtin .append, args := #[s, x], argTypes := #[t, t] })
    (base : Nat) (e : TypeId) (i : TypeInfo) (z : Value) (bytes : Nat) (ht : P.underlying t = some (.slice e)) (hi : P.info? e = some i) (hz : i.zero = some z)
    (hsize : i.size = 1) (hby : i.bytes = bytes) (hzs : z.cells.size = 1)
    (v : Value) (n : Nat) (xs : List Value) (hs : a.eval s = v) (hown : w.ownsRow base e 1 v n xs)
    (src : Value) (l : List α) (hx : a.eval x = src) (hl : ListAt f w src l) (h1 : ∀ y ∈ l, (f y).oneCell' = true)
    (h63 : n + l.length ≤ maxLen) (hbytes : (n + l.length) * bytes ≤ 140737488355328) (hbase : base ≤ w.heap.size)
    (h : ∀ v' w', w'.ownsRow base e 1 v' (n + l.length) (xs ++ l.map f) → w.grownBy w' v.ownBlock → wpList P ops Q rest (a.put o.dst v') w') : wpList P ops Q (o :: rest) a w := by
  obtain ⟨ad, cap, rfl, hc, hm, hcell⟩ := hl
  by_cases hp : 0 < l.length
  · obtain ⟨b, off, rfl, hcc⟩ := hcell hp
    refine wpList_append_own w hgd s x t ho base e i z 1 bytes ht hi hz hsize hby hzs (by decide) v n xs hs hown ⟨b, off, none⟩ l.length cap (l.map f) hx (by simp) ?_ ?_ h63 hbytes hbase fun v' w' h2 h3 _ => h v' w' h2 h3
    · intro j u hu
      have hj : j < l.length := by have := (List.getElem?_eq_some_iff.1 hu).1; simpa using this
      rw [Go.WideShapes.add_plain, hcc j hj]
      simp [hj] at hu
      rw [hu]
    · intro u hu
      obtain ⟨y, hy, rfl⟩ := List.mem_map.1 hu
      exact h1 y hy
  · have hl0 : l = [] := List.eq_nil_of_length_eq_zero (by omega)
    subst hl0
    cases ad with
    | none =>
      refine wpList_plain hgd fun K hK => ?_
      have hrun := run_append_none_cap (P := P) (w := w) base t o.type e i 1 ht hi v n cap xs hown
      unfold Oper.wp
      simp [execOp, ho, resolve, invoke, builtin, hs, hx, hrun, Result.andThen]
      exact hK _ _ (h v w (by simpa using hown) (World.grownBy.refl _ _))
    | some ad =>
      exact wpList_append_own w hgd s x t ho base e i z 1 bytes ht hi hz hsize hby hzs (by decide) v n xs hs hown ad 0 cap [] hx (by simp) (fun j u hu => by simp at hu) (fun u hu => by simp at hu) h63 hbytes hbase fun v' w' h2 h3 _ => h v' w' (by simpa using h2) h3

theorem own_open {w : World} {base n : Nat} {e : TypeId} {v : Value} {xs : List Value} (h : w.ownsRow base e 1 v n xs) :
    ∃ ao cap, v = .slice ao n cap ∧ n ≤ cap ∧ (0 < n → ∃ g, ao = some ⟨g, 0, none⟩) := by
  rcases h.2 with ⟨rfl, rfl⟩ | ⟨g, cap, cur, rfl, hb, hg, hc, _⟩
  · exact ⟨none, 0, rfl, Nat.le_refl _, fun h => by omega⟩
  · exact ⟨_, cap, rfl, hc, fun _ => ⟨g, rfl⟩⟩

theorem grown_trans {a b c : World} {row : Option Nat} (h : a.grownBy b row) (k : b.grownBy c row) : a.grownBy c row :=
  ⟨k.os.trans h.os, k.tape.trans h.tape, k.output.trans h.output, Nat.le_trans h.size k.size, fun j hj hr => (k.block j (Nat.lt_of_lt_of_le hj h.size) hr).trans (h.block j hj hr)⟩

section
variable {α : Type} {f : α → Value} {w w2 : World} {v v2 x : Value} {L : List (List α)} {te e : TypeId} {base : Nat} {r : List α} {vs : List Value}

/-- One row more, behind the laying of a literal of one and an append. -/
theorem MatOwn.app {o : Obj} (hne : e ≠ te) (hown : w.ownsRow base e 1 v L.length vs) (hel : ∀ i, ElAt f te base w (vs.getD i nilS) (L.getD i [])) (hx : ElAt f te base w x r)
    (hown' : w2.ownsRow base e 1 v2 (L.length + 1) (vs ++ [x])) (hg : (w.alloc o).grownBy w2 v.ownBlock) : MatOwn f te base e w2 v2 (L ++ [r]) :=
  have hb : Below w.heap.size w (w.alloc o) := (Below.refl _ _).alloc (Nat.le_refl _) _
  MatOwn.snoc hne (hown.alloc o) (fun i => (hel i).mono hb) (hx.mono hb) hown' hg

theorem MatAt.slices {vs : List Value} (h : ∀ i, ListAt f w (vs.getD i nilS) (L.getD i [])) : ∀ y ∈ vs, (id y).oneCell' = true := by
  intro y hy
  obtain ⟨i, hi, rfl⟩ := List.getElem_of_mem hy
  obtain ⟨a, cap, e, _⟩ := h i
  rw [List.getD_eq_getElem?_getD, List.getElem?_eq_getElem hi] at e
  have e' : vs[i] = .slice a (L.getD i []).length cap := e
  rw [e']; rfl

end

theorem getD_set {β : Type} (l : List β) (i k : Nat) (y d : β) (hi : i < l.length) : (l.set i y).getD k d = if k = i then y else l.getD k d := by
  simp only [List.getD_eq_getElem?_getD, List.getElem?_set]
  by_cases e : k = i
  · subst e; simp [hi]
  · rw [if_neg e, if_neg (fun h => e h.symm)]
end Go.Proofs.YtgbogglalnafeaaDoor
