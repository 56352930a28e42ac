import Derived.Test.YtkhdjjcflbdegaaGreatDoorG34
import Derived.Test.YtkhdjjcflbdegaaGreatDoorH1
import Derived.Test.YtkhdjjcflbdegaaGreatDoorMade
import Derived.Deep.RegionHeld3
import Derived.Test.YtkhdjjcflbdegaaGreatDoorG08

section
/- Package geyserref13: equations of three cells in memory: as they are read (KqsAt), as a call makes them (KqsOwn); truths, lead. -/
namespace Go.Proofs.YtkhdjjcflbdegaaGreatDoor
open Go.RowKit Go.Extern.Stop Go.Stop Go.Extern

theorem info_keq : (Tryz.prog.info? 140).map (fun i => (i.zero, i.size, i.bytes)) = some (some (.agg #[.slice none 0 0, .slice none 0 0, .int .i64 0]), 3, 56) := by kernel_rfl

/-- An element that is old, or of its own kind, in a block that A names. -/
def ElM {α : Type} (f : α → Value) (te : TypeId) (base : Nat) (A : Nat → Prop) (w : World) (x : Value) (r : List α) : Prop :=
  ListAt f w x r ∧ (0 < r.length → ∀ b, x.ownBlock = some b → A b ∧ (b < base ∨ ∃ cur, w.heap[b]? = some (.cells cur te (0, 0))))
section
variable {α : Type} {f : α → Value} {te e t : TypeId} {base : Nat} {A A' : Nat → Prop} {w w' : World} {x v u : Value} {r : List α} {vs : List Value} {n size ob g j : Nat} {z : Nat × Nat} {cur : Array Value}
theorem ElM.mono (h : ElM f te base A w x r) (hb : Below w.heap.size w w') : ElM f te base A w' x r := by
  refine ⟨h.1.mono hb, fun hp b hx => ?_⟩
  obtain ⟨h1, h2⟩ := h.2 hp b hx
  refine ⟨h1, h2.imp id fun ⟨cur, h3⟩ => ⟨cur, by rw [hb.block b (h.1.block hp b hx)]; exact h3⟩⟩
theorem ElM.weaken (h : ElM f te base A w x r) (hA : ∀ b, b < w.heap.size → A b → A' b) : ElM f te base A' w x r :=
  ⟨h.1, fun hp b hx => ⟨hA b (h.1.block hp b hx) (h.2 hp b hx).1, (h.2 hp b hx).2⟩⟩
theorem ElM.own (h : w.ownsRow ob te 1 x n (r.map f)) (hA : ∀ b, ob ≤ b → A b) : ElM f te base A w x r := by
  refine ⟨ListAt.of_owns h, fun _ b hx => ?_⟩
  rcases h.2 with ⟨rfl, _⟩ | ⟨g, cap, cur, rfl, hb, hg, _⟩
  · simp [Value.ownBlock] at hx
  · have : g = b := by simpa [Value.ownBlock] using hx
    subst this
    exact ⟨hA _ hb, .inr ⟨cur, hg⟩⟩
theorem ElM.old {w0 : World} (h : ListAt f w0 x r) (hb : Below w0.heap.size w0 w) (hl : w0.heap.size ≤ base) (hA : ∀ b, b < w0.heap.size → A b) : ElM f te base A w x r :=
  ⟨h.mono hb, fun hp b hx => ⟨hA b (h.block hp b hx), .inl (Nat.lt_of_lt_of_le (h.block hp b hx) hl)⟩⟩
/-- What lies at its blocks alone matters. -/
theorem ElM.keep (h : ElM f te base A w x r) (hs : ∀ b, A b → (b < base ∨ ∃ cur, w.heap[b]? = some (.cells cur te (0, 0))) → b < w.heap.size → w'.heap[b]? = w.heap[b]?) : ElM f te base A w' x r := by
  by_cases hp : 0 < r.length
  · have hnb : ∀ b, x.ownBlock = some b → w'.heap[b]? = w.heap[b]? := fun b hx => hs b (h.2 hp b hx).1 (h.2 hp b hx).2 (h.1.block hp b hx)
    obtain ⟨⟨a, cap, rfl, h1, h2, h3⟩, h4⟩ := h
    obtain ⟨b, off, rfl, hc⟩ := h3 hp
    have hnb' := hnb b rfl
    refine ⟨⟨_, cap, rfl, h1, h2, fun _ => ⟨b, off, rfl, fun j hj => ?_⟩⟩, fun _ b' hb' => ?_⟩
    · rw [World.cell?_of_block (w := w) (a := ⟨b, off + j, none⟩) hnb']; exact hc j hj
    · have : b = b' := by simpa [Value.ownBlock] using hb'
      subst this
      rw [hnb']
      exact h4 hp b rfl
  · obtain ⟨⟨a, cap, rfl, h1, h2, _⟩, _⟩ := h
    exact ⟨⟨a, cap, rfl, h1, h2, fun hp' => absurd hp' hp⟩, fun hp' => absurd hp' hp⟩
theorem ElM.grown (h : ElM f te base A w x r) (hne : e ≠ te) (hob : base ≤ ob) (hown : w.ownsRow ob e size v n vs) (hg : w.grownBy w' v.ownBlock) : ElM f te base A w' x r :=
  h.keep fun b _ hk hb => hg.block b hb fun hv => by
    rcases hown.2 with ⟨rfl, _⟩ | ⟨g, cap, cur', rfl, hbg, hgg, _⟩
    · simp [Value.ownBlock] at hv
    · have : b = g := by simpa [Value.ownBlock] using hv
      subst this
      rcases hk with hk | ⟨cur, hk⟩
      · omega
      · rw [hk] at hgg
        cases hgg
        exact hne rfl
theorem ElM.set (h : ElM f te base A w x r) (hg : w.heap[g]? = some (.cells cur t z)) (hb : base ≤ g) (ht : t ≠ te) (j : Nat) (u : Value) : ElM f te base A (w.setCell ⟨g, j, none⟩ u) x r :=
  h.keep fun b _ hk _ => Below.heap_setCell _ _ _ _ fun e => by
    rw [show b = g from e] at hk
    rcases hk with hk | ⟨cur, hk⟩
    · omega
    · rw [hk] at hg
      cases hg
      exact ht rfl
/-- Two other blocks alone have turned. -/
theorem ElM.only {g' : Nat} {z' : Nat × Nat} {cur' : Array Value} (h : ElM f te base A w x r) (hg : w.heap[g]? = some (.cells cur t z)) (hg' : w.heap[g']? = some (.cells cur' t z')) (hb : base ≤ g) (hb' : base ≤ g') (ht : t ≠ te) (hs : ∀ x, x ≠ g → x ≠ g' → w'.heap[x]? = w.heap[x]?) : ElM f te base A w' x r :=
  h.keep fun b _ hk _ => hs b (fun e => by
    rw [e] at hk
    rcases hk with hk | ⟨cur, hk⟩
    · omega
    · rw [hk] at hg
      cases hg
      exact ht rfl) fun e => by
    rw [e] at hk
    rcases hk with hk | ⟨cur, hk⟩
    · omega
    · rw [hk] at hg'
      cases hg'
      exact ht rfl
end

/-- An equation as the document keeps it: a row's truths, its symbol, its least column. -/
abbrev Kq : Type := Ln × Nat
def noKq : Kq := (noLn, 0)
def kqV (q : Kq) : Kept := (lineV q.1.1 q.1.2, q.2)
/-- A slice of them that reads as a list. -/
def KqsAt (w : World) (v : Value) (L : List Kq) : Prop :=
  ∃ a cap, v = .slice a L.length cap ∧ L.length ≤ cap ∧ cap ≤ maxLen ∧ (0 < L.length → ∃ b off, a = some ⟨b, off, none⟩ ∧ ∀ j, j < L.length →
    ∃ r s, w.cell? ⟨b, off + j * 3, none⟩ = some r ∧ w.cell? ⟨b, off + j * 3 + 1, none⟩ = some s ∧ w.cell? ⟨b, off + j * 3 + 2, none⟩ = some (.int .i64 ((L.getD j noKq).2 : Int)) ∧ ListAt boolV w r (L.getD j noKq).1.1 ∧ ListAt byteV w s (L.getD j noKq).1.2)
theorem KqsAt.mono {w w' : World} {v : Value} {L : List Kq} (h : KqsAt w v L) (hb : Below w.heap.size w w') : KqsAt w' v L := by
  obtain ⟨a, cap, rfl, h1, h2, h3⟩ := h
  refine ⟨a, cap, rfl, h1, h2, fun hp => ?_⟩
  obtain ⟨b, off, rfl, hc⟩ := h3 hp
  refine ⟨b, off, rfl, fun j hj => ?_⟩
  obtain ⟨r, s, c0, c1, c2, l1, l2⟩ := hc j hj
  have hl := World.block_lt_of_cell? w _ c0
  exact ⟨r, s, (hb.cell (p := ⟨b, off + j * 3, none⟩) hl).trans c0, (hb.cell (p := ⟨b, off + j * 3 + 1, none⟩) hl).trans c1, (hb.cell (p := ⟨b, off + j * 3 + 2, none⟩) hl).trans c2, l1.mono hb, l2.mono hb⟩
/-- What a list of cells says: two slices and a number an equation. -/
def KqsEl (base : Nat) (A : Nat → Prop) (w : World) (cs : List Value) (L : List Kq) : Prop :=
  ∀ j, j < L.length → ∃ r s, cs[j * 3]? = some r ∧ cs[j * 3 + 1]? = some s ∧ cs[j * 3 + 2]? = some (.int .i64 ((L.getD j noKq).2 : Int)) ∧ ElM boolV 4 base A w r (L.getD j noKq).1.1 ∧ ElM byteV 5 base A w s (L.getD j noKq).1.2
/-- A list of them of a call's own: its row lies from ob on. -/
def KqsOwn (ob base : Nat) (A : Nat → Prop) (w : World) (v : Value) (L : List Kq) : Prop :=
  base ≤ ob ∧ ∃ cs : List Value, w.ownsRow ob 140 3 v L.length cs ∧ KqsEl base A w cs L
section
variable {ob base : Nat} {A A' : Nat → Prop} {w w' : World} {v v' r s : Value} {L : List Kq} {q : Kq} {cs : List Value}
theorem KqsEl.mono (h : KqsEl base A w cs L) (hb : Below w.heap.size w w') : KqsEl base A w' cs L := fun j hj => by
  obtain ⟨r, s, c0, c1, c2, e1, e2⟩ := h j hj
  exact ⟨r, s, c0, c1, c2, e1.mono hb, e2.mono hb⟩
theorem KqsOwn.mono (h : KqsOwn ob base A w v L) (hb : Below w.heap.size w w') : KqsOwn ob base A w' v L := by
  obtain ⟨h0, cs, h1, h2⟩ := h
  exact ⟨h0, cs, owns_kept h1 hb, h2.mono hb⟩
theorem KqsOwn.weaken (h : KqsOwn ob base A w v L) (hA : ∀ b, b < w.heap.size → A b → A' b) : KqsOwn ob base A' w v L := by
  obtain ⟨h0, cs, h1, h2⟩ := h
  refine ⟨h0, cs, h1, fun j hj => ?_⟩
  obtain ⟨r, s, c0, c1, c2, e1, e2⟩ := h2 j hj
  exact ⟨r, s, c0, c1, c2, e1.weaken hA, e2.weaken hA⟩
theorem KqsOwn.low {ob' : Nat} (h : KqsOwn ob base A w v L) (hb : base ≤ ob') (hl : ob' ≤ ob) : KqsOwn ob' base A w v L := by
  obtain ⟨h0, cs, h1, h2⟩ := h
  exact ⟨hb, cs, ownsRow_base h1 hl, h2⟩
theorem KqsOwn.nil (hb : base ≤ ob) (w : World) : KqsOwn ob base A w nilS [] := ⟨hb, [], World.ownsRow_nil _ _ _ _, fun j hj => by simp at hj⟩
theorem owns_keep {e : TypeId} {n size : Nat} {vs : List Value} (h : w.ownsRow ob e size v n vs) (hs : ∀ (b : Nat) (cur : Array Value), w.heap[b]? = some (.cells cur e (0, 0)) → w'.heap[b]? = w.heap[b]?) : w'.ownsRow ob e size v n vs := by
  refine ⟨h.1, ?_⟩
  rcases h.2 with h1 | ⟨g, cap, cur, h1, h2, h3, h4⟩
  · exact .inl h1
  · exact .inr ⟨g, cap, cur, h1, h2, by rw [hs g cur h3]; exact h3, h4⟩
theorem KqsOwn.keep (h : KqsOwn ob base A w v L) (h0 : ∀ (b : Nat) (cur : Array Value), w.heap[b]? = some (.cells cur 140 (0, 0)) → w'.heap[b]? = w.heap[b]?)
    (hs : ∀ b, A b → (b < base ∨ ∃ cur te, (te = 4 ∨ te = 5) ∧ w.heap[b]? = some (.cells cur te (0, 0))) → b < w.heap.size → w'.heap[b]? = w.heap[b]?) : KqsOwn ob base A w' v L := by
  obtain ⟨hb, cs, h1, h2⟩ := h
  refine ⟨hb, cs, owns_keep h1 h0, fun j hj => ?_⟩
  obtain ⟨r, s, c0, c1, c2, e1, e2⟩ := h2 j hj
  exact ⟨r, s, c0, c1, c2, e1.keep fun b ha hk hl => hs b ha (hk.imp id fun ⟨cur, hc⟩ => ⟨cur, _, .inl rfl, hc⟩) hl, e2.keep fun b ha hk hl => hs b ha (hk.imp id fun ⟨cur, hc⟩ => ⟨cur, _, .inr rfl, hc⟩) hl⟩
theorem KqsOwn.at (h : KqsOwn ob base A w v L) : KqsAt w v L := by
  obtain ⟨-, cs, h1, h2⟩ := h
  have hl := h1.1
  rcases h1.2 with ⟨rfl, h0⟩ | ⟨g, cap, cur, rfl, hbg, hh, hc, hm, hs, htk⟩
  · exact ⟨none, 0, by rw [h0], by omega, Nat.zero_le _, fun hp => by omega⟩
  · refine ⟨_, _, rfl, hc, hm, fun hp => ⟨g, 0, rfl, fun j hj => ?_⟩⟩
    obtain ⟨r, s, c0, c1, c2, e1, e2⟩ := h2 j hj
    refine ⟨r, s, ?_, ?_, ?_, e1.1, e2.1⟩
    · rw [World.ownsRow.cellAt h1 (0 + j * 3) (by omega), Nat.zero_add, c0]
    · rw [World.ownsRow.cellAt h1 (0 + j * 3 + 1) (by omega), Nat.zero_add, c1]
    · rw [World.ownsRow.cellAt h1 (0 + j * 3 + 2) (by omega), Nat.zero_add, c2]
/-- Another block alone has turned. -/
theorem KqsOwn.only {g : Nat} {t : TypeId} {z : Nat × Nat} {cur : Array Value} (h : KqsOwn ob base A w v L) (hg : w.heap[g]? = some (.cells cur t z)) (hb : base ≤ g) (ht : t ≠ 4 ∧ t ≠ 5 ∧ t ≠ 140) (hs : ∀ x, x ≠ g → w'.heap[x]? = w.heap[x]?) : KqsOwn ob base A w' v L :=
  h.keep (fun b cur' hx => hs b fun e => by
    rw [e, hg] at hx
    simp at hx
    exact ht.2.2 hx.2.1) fun b _ hk _ => hs b fun e => by
    rw [e] at hk
    rcases hk with hk | ⟨cur', te, hte, hk⟩
    · omega
    · rw [hg] at hk
      simp at hk
      rcases hte with rfl | rfl
      · exact ht.1 hk.2.1
      · exact ht.2.1 hk.2.1
theorem keq_ne : 140 ≠ 4 ∧ 140 ≠ 5 := by decide
/-- One equation more. -/
theorem KqsOwn.snoc (hob : base ≤ ob) (hown : w.ownsRow ob 140 3 v L.length cs) (hel : KqsEl base A w cs L)
    (h1 : ElM boolV 4 base A w r q.1.1) (h2 : ElM byteV 5 base A w s q.1.2) (hown' : w'.ownsRow ob 140 3 v' (L.length + 1) (cs ++ [r, s, .int .i64 (q.2 : Int)])) (hg : w.grownBy w' v.ownBlock) : KqsOwn ob base A w' v' (L ++ [q]) := by
  have hl := hown.1
  refine ⟨hob, cs ++ [r, s, .int .i64 (q.2 : Int)], by rw [List.length_append]; exact hown', fun j hj => ?_⟩
  rw [getD_snoc]
  by_cases h : j < L.length
  · rw [if_pos h]
    obtain ⟨r', s', c0, c1, c2, e1, e2⟩ := hel j h
    refine ⟨r', s', ?_, ?_, ?_, e1.grown keq_ne.1 hob hown hg, e2.grown keq_ne.2 hob hown hg⟩
    · rw [List.getElem?_append_left (by omega)]; exact c0
    · rw [List.getElem?_append_left (by omega)]; exact c1
    · rw [List.getElem?_append_left (by omega)]; exact c2
  · have e : j = L.length := by simp at hj; omega
    rw [if_neg h, if_pos e]
    refine ⟨r, s, ?_, ?_, ?_, h1.grown keq_ne.1 hob hown hg, h2.grown keq_ne.2 hob hown hg⟩
    · rw [List.getElem?_append_right (by omega), show j * 3 - cs.length = 0 by omega]; rfl
    · rw [List.getElem?_append_right (by omega), show j * 3 + 1 - cs.length = 1 by omega]; rfl
    · rw [List.getElem?_append_right (by omega), show j * 3 + 2 - cs.length = 2 by omega]; rfl
/-- One equation more, laid in a block of its own first. -/
theorem KqsOwn.app {o : Obj} (hob : base ≤ ob) (hown : w.ownsRow ob 140 3 v L.length cs) (hel : KqsEl base A w cs L)
    (h1 : ElM boolV 4 base A w r q.1.1) (h2 : ElM byteV 5 base A w s q.1.2) (hown' : w'.ownsRow ob 140 3 v' (L.length + 1) (cs ++ [r, s, .int .i64 (q.2 : Int)])) (hg : (w.alloc o).grownBy w' v.ownBlock) : KqsOwn ob base A w' v' (L ++ [q]) := by
  have hb : Below w.heap.size w (w.alloc o) := (Below.refl _ _).alloc (Nat.le_refl _) _
  exact KqsOwn.snoc (w := w.alloc o) hob (owns_kept hown hb) (hel.mono hb) (h1.mono hb) (h2.mono hb) hown' hg
end

/-- append of such a list onto an empty one of the call's own. -/
theorem wpList_append_kqs {P : Program} (w : World) {ops : Array Oper} {rest : List Oper} {o : Oper} {a : Act} {Q : Exit → Act → World → Prop} (hgd : o.guard = none) (s x : Operand) (t : TypeId)
    (ho : o.op = .call { callee := .builtin .append, args := #[s, x], argTypes := #[t, t] })
    (ob base : Nat) (i : TypeInfo) (z : Value) (bytes : Nat) (ht : P.underlying t = some (.slice 140)) (hi : P.info? 140 = some i) (hz : i.zero = some z)
    (hsize : i.size = 3) (hby : i.bytes = bytes) (hzs : z.cells.size = 3)
    (v : Value) (hs : a.eval s = v) (hown : w.ownsRow ob 140 3 v 0 [])
    (src : Value) (L : List Kq) (hx : a.eval x = src) (A : Nat → Prop) (ob0 : Nat) (hl : KqsOwn ob0 base A w src L)
    (h63 : 0 + L.length ≤ maxLen) (hbytes : (0 + L.length) * bytes ≤ 140737488355328) (hob : base ≤ ob) (hbase : ob ≤ w.heap.size)
    (h : ∀ v' w', KqsOwn ob base A w' v' L → w.grownBy w' v.ownBlock → wpList P ops Q rest (a.put o.dst v') w') : wpList P ops Q (o :: rest) a w := by
  obtain ⟨-, cs, hc1, hc2⟩ := hl
  have hlen := hc1.1
  have fin : ∀ v' w', w'.ownsRow ob 140 3 v' (0 + L.length) ([] ++ cs) → w.grownBy w' v.ownBlock → KqsOwn ob base A w' v' L := fun v' w' h2 h3 => by
    rw [Nat.zero_add, List.nil_append] at h2
    refine ⟨hob, cs, h2, fun j hj => ?_⟩
    obtain ⟨r, s, d0, d1, d2, l1, l2⟩ := hc2 j hj
    exact ⟨r, s, d0, d1, d2, l1.grown keq_ne.1 hob hown h3, l2.grown keq_ne.2 hob hown h3⟩
  rcases hc1.2 with ⟨rfl, h0⟩ | ⟨g, cap, cur, rfl, hbg, hh, hc, hm, hss, htk⟩
  · have hl0 : L = [] := List.eq_nil_of_length_eq_zero h0
    subst hl0
    obtain rfl : cs = [] := List.eq_nil_of_length_eq_zero (by simpa using hlen)
    refine wpList_plain hgd fun K hK => ?_
    have hrun := run_append_none_cap (P := P) (w := w) ob t o.type _ i 3 ht hi v 0 0 [] hown
    unfold Oper.wp
    simp [execOp, ho, resolve, invoke, builtin, hs, hx, hrun, Result.andThen]
    exact hK _ _ (h v w (fin v w (by simpa using hown) (World.grownBy.refl _ _)) (World.grownBy.refl _ _))
  · refine wpList_append_own w hgd s x t ho ob _ i z 3 bytes ht hi hz hsize hby hzs (by decide) v 0 [] hs hown ⟨g, 0, none⟩ L.length cap cs hx (by omega) (fun j u hu => ?_) (fun u hu => ?_) h63 hbytes hbase fun v' w' h2 h3 _ => h v' w' (fin v' w' h2 h3) h3
    · have hj : j < cs.length := (List.getElem?_eq_some_iff.1 hu).1
      rw [Go.WideShapes.add_plain, World.ownsRow.cellAt hc1 (0 + j) (by omega), Nat.zero_add]
      exact hu
    · obtain ⟨i, hi, rfl⟩ := List.getElem_of_mem hu
      obtain ⟨r, s, d0, d1, d2, l1, l2⟩ := hc2 (i / 3) (by omega)
      have h3 : i % 3 = 0 ∨ i % 3 = 1 ∨ i % 3 = 2 := by omega
      rcases h3 with e | e | e
      · rw [show i / 3 * 3 = i by omega, List.getElem?_eq_getElem hi] at d0
        obtain ⟨_, _, rfl, _⟩ := l1.1
        rw [Option.some.inj d0]; rfl
      · rw [show i / 3 * 3 + 1 = i by omega, List.getElem?_eq_getElem hi] at d1
        obtain ⟨_, _, rfl, _⟩ := l2.1
        rw [Option.some.inj d1]; rfl
      · rw [show i / 3 * 3 + 2 = i by omega, List.getElem?_eq_getElem hi] at d2
        rw [Option.some.inj d2]; rfl

set_option maxRecDepth 1000000 in
set_option maxHeartbeats 4000000 in
theorem rTruths_any {w : World} (v : Value) (R : List Nat) (n : Nat) (hv : ListAt colV w v R) (hR : ∀ c ∈ R, c < n) (hn : n ≤ 4096) :
    Calls Tryz.prog 77 #[v, .int .i64 (n : Int)] w fun e w' => ∃ v', e = .returned v' ∧ w'.ownsRow w.heap.size 4 1 v' n ((rowT n R R.length).map boolV) ∧ Below w.heap.size w w' := by
  obtain ⟨j0, hj0, jz0, jz1, jz2⟩ := info_parts info_bool
  have HR := Lib.hid hR
  have hlen := hv.len
  obtain ⟨a, cp, rfl, hcp, -, hcell⟩ := hv
  have HC : Hid (0 < R.length → ∃ b off, a = some ⟨b, off, none⟩ ∧ ∀ t, t < R.length → w.cell? ⟨b, off + t, none⟩ = some (.int .i64 ((R.getD t 0 : Nat) : Int))) := Lib.hid fun hp => by
    obtain ⟨b, off, e, h⟩ := hcell hp
    refine ⟨b, off, e, fun t ht => ?_⟩
    rw [h t ht]
    simp [colV, List.getD_eq_getElem?_getD, ht]
  clear hR hcell
  obtain ⟨q, hq⟩ : ∃ q, R.length = q := ⟨_, rfl⟩
  have HQ := Lib.hid hq
  rw [hq] at HC hlen hcp ⊢
  clear hq
  go_enter Tryz.func77, Tryz.ntmps77
  go_wp2_with (at_make; refine wpList_make_full _ rfl _ _ 138 rfl w.heap.size 4 j0 (.bool false) 1 Tryz.underlying138 hj0 jz0 jz1 .i64 .i64 _ _ n rfl rfl rfl rfl (by rw [jz2]; omega) (by unfold maxLen; omega) (Nat.le_refl _) ?_; intro w3 hown0 hgrow0; have HB3 := Lib.hid ((Below.refl w.heap.size w).grown hgrow0 (Nat.le_refl _) (fun k hk => by cases hk)); have HO3 : Hid (w3.ownsRow w.heap.size 4 1 (.slice (some ⟨w.heap.size, 0, none⟩) n n) n ((rowT n R 0).map boolV)) := Lib.hid (by rw [rowT_zero, List.map_replicate]; rw [Nat.mul_one] at hown0; exact toList_madeCells_one (.bool false) n ▸ hown0); clear hown0 hgrow0)
  go_loopw [6] (fun i wr => ∃ t : Nat, t ≤ q ∧ i = .int .i64 t ∧ wr.ownsRow w.heap.size 4 1 (.slice (some ⟨w.heap.size, 0, none⟩) n n) n ((rowT n R t).map boolV) ∧ Below w.heap.size w wr) (fun i _ => q - (intOf i).toNat)
  case atStart => exact ⟨0, Nat.zero_le _, rfl, HO3.out, HB3.out⟩
  case round =>
    obtain ⟨t, ht, rfl, hown, hb⟩ := hrel
    have HOW := Lib.hid hown
    have HBR := Lib.hid hb
    by_cases htq : t < q
    · obtain ⟨br, or, rfl, hcr⟩ := HC.out (by omega)
      have hr3 := hcr t htq
      have hr4 : wr.cell? ⟨br, or + t, none⟩ = some (.int .i64 ((R.getD t 0 : Nat) : Int)) := (hb.cell (p := ⟨br, or + t, none⟩) (World.block_lt_of_cell? w _ hr3)).trans hr3
      have htR : t < R.length := by rw [HQ.out]; exact htq
      have hcl : R.getD t 0 < n := HR.out _ (by
        rw [List.getD_eq_getElem?_getD, List.getElem?_eq_getElem htR]
        exact List.getElem_mem htR)
      have hy3 : ∃ y, wr.cell? ⟨w.heap.size, R.getD t 0, none⟩ = some y := by
        have := hown.cellAt (R.getD t 0) (by omega)
        rw [this]
        exact ⟨_, List.getElem?_eq_getElem (by rw [List.length_map, rowT_length]; exact hcl)⟩
      obtain ⟨y, hy3⟩ := hy3
      have hy4 : wr.frozen? ⟨w.heap.size, R.getD t 0, none⟩ = false := hown.frozenAt _
      have HS2 := Lib.hid (rowT_set (l := n) htR)
      clear hown hb hcr hr3 htR
      generalize R.getD t 0 = cc at *
      go_wp2_with fail
      go_roundw
      case rel => exact ⟨t + 1, by omega, by go_num, by rw [← HS2.out, List.map_set]; exact (HOW.out.stored cc (.bool true)).1, HBR.out.setCell (p := ⟨w.heap.size, cc, none⟩) (Nat.le_refl _) _⟩
      case measure => simp [intOf]; omega
    · obtain rfl : t = q := by omega
      clear hown hb
      go_wp2
      go_ret
      exact ⟨_, rfl, HOW.out, HBR.out⟩

/-- What lead says of a row. -/
def LeadB (R : List Bool) (z : Int) : Prop := (∃ c : Nat, z = (c : Int) ∧ c < R.length ∧ R.getD c false = true ∧ ∀ d, d < c → R.getD d false = false) ∨ (z = -1 ∧ ∀ d, d < R.length → R.getD d false = false)
set_option maxRecDepth 1000000 in
theorem rLead_any {w : World} (v : Value) (R : List Bool) (hv : ListAt boolV w v R) :
    Calls Tryz.prog 113 #[v] w fun e w' => ∃ z, e = .returned (.int .i64 z) ∧ LeadB R z ∧ w = w' := by
  have hlen := hv.len
  obtain ⟨a, cp, rfl, hcp, -, hcell⟩ := hv
  have HC : Hid (0 < R.length → ∃ b off, a = some ⟨b, off, none⟩ ∧ ∀ t, t < R.length → w.cell? ⟨b, off + t, none⟩ = some (.bool (R.getD t false))) := Lib.hid fun hp => by
    obtain ⟨b, off, e, h⟩ := hcell hp
    refine ⟨b, off, e, fun t ht => ?_⟩
    rw [h t ht]
    simp [boolV, List.getD_eq_getElem?_getD, ht]
  clear hcell
  obtain ⟨q, hq⟩ : ∃ q, R.length = q := ⟨_, rfl⟩
  have HQ := Lib.hid hq
  rw [hq] at HC hlen hcp ⊢
  clear hq
  go_enter Tryz.func113, Tryz.ntmps113
  go_wp2
  go_loopw [3] (fun i wr => ∃ t : Nat, t ≤ q ∧ i = .int .i64 t ∧ (∀ d, d < t → R.getD d false = false) ∧ w = wr) (fun i _ => q - (intOf i).toNat)
  case atStart => exact ⟨0, Nat.zero_le _, rfl, fun d hd => by omega, rfl⟩
  case round =>
    obtain ⟨t, ht, rfl, hz, rfl⟩ := hrel
    by_cases htq : t < q
    · obtain ⟨br, or, rfl, hcr⟩ := HC.out (by omega)
      have hr := hcr t htq
      have HZ := Lib.hid hz
      obtain ⟨bt, hbt⟩ : ∃ bt, R.getD t false = bt := ⟨_, rfl⟩
      have HBT := Lib.hid hbt
      rw [hbt] at hr
      clear hcr hz hbt
      cases bt with
      | true =>
        go_wp2
        go_ret
        exact ⟨_, rfl, .inl ⟨t, rfl, by rw [HQ.out]; exact htq, HBT.out, HZ.out⟩, rfl⟩
      | false =>
        go_wp2
        go_roundw
        case rel => exact ⟨t + 1, by omega, by go_num, fun d hd => by
          by_cases e : d = t
          · rw [e]; exact HBT.out
          · exact HZ.out d (by omega), trivial⟩
        case measure => simp [intOf]; omega
    · obtain rfl : t = q := by omega
      have HZ := Lib.hid hz
      clear hz
      go_wp2
      go_ret
      exact ⟨_, rfl, .inr ⟨rfl, by rw [HQ.out]; exact HZ.out⟩, rfl⟩
end Go.Proofs.YtkhdjjcflbdegaaGreatDoor
end

section
/- Package geyserref13: less: an equation less those that are kept. -/
namespace Go.Proofs.YtkhdjjcflbdegaaGreatDoor
open Go.RowKit Go.Extern.Stop Go.Stop Go.Extern

structure KqOk (n size : Nat) (L : List Kq) : Prop where
  row : ∀ j, j < L.length → (L.getD j noKq).1.1.length = n ∧ (L.getD j noKq).1.2.length = size ∧ Octets (L.getD j noKq).1.2
  kept : KeptOk n (L.map kqV)
theorem KqOk.lead {n size : Nat} {L : List Kq} (h : KqOk n size L) {j : Nat} (hj : j < L.length) : (L.getD j noKq).2 < n := by
  have h1 := (h.kept.lead (kqV (L.getD j noKq)) (List.mem_map.2 ⟨_, by rw [List.getD_eq_getElem?_getD, List.getElem?_eq_getElem hj]; exact List.getElem_mem hj, rfl⟩)).2
  exact h1
theorem KqOk.len {n size : Nat} {L : List Kq} (h : KqOk n size L) : L.length ≤ n := by
  have := h.kept.length_le
  rwa [List.length_map] at this
theorem takeK_succ {L : List Kq} {i : Nat} (hi : i < L.length) (e : Vec) : lessV ((L.take (i + 1)).map kqV) e = stepK (lessV ((L.take i).map kqV) e) (kqV (L.getD i noKq)) := by
  rw [List.take_succ_eq_append_getElem hi, List.map_append, List.map_singleton, lessV_snoc, List.getD_eq_getElem?_getD, List.getElem?_eq_getElem hi]
  rfl

/-- An equation in a block of its own. -/
def KqBox (W : World) (g : Nat) (r s : Value) (ld : Int) : Prop := W.heap[g]? = some (.cells #[r, s, .int .i64 ld] 140 (0, 0))
section
variable {W W' : World} {g B : Nat} {r s : Value} {ld : Int}
theorem KqBox.lt (b : KqBox W g r s ld) : g < W.heap.size := (Array.getElem?_eq_some_iff.1 b).1
theorem KqBox.mono (b : KqBox W g r s ld) (hb : Below W.heap.size W W') : KqBox W' g r s ld := (hb.block g b.lt).trans b
theorem KqBox.keep (b : KqBox W g r s ld) (hb : Below B W W') (hg : g < B) : KqBox W' g r s ld := (hb.block g hg).trans b
theorem KqBox.cells (b : KqBox W g r s ld) : W.cell? ⟨g, 0, none⟩ = some r ∧ W.cell? ⟨g, 1, none⟩ = some s ∧ W.cell? ⟨g, 2, none⟩ = some (.int .i64 ld) := ⟨cell_of_heap b rfl, cell_of_heap b rfl, cell_of_heap b rfl⟩
theorem KqBox.free (b : KqBox W g r s ld) : W.frozen? ⟨g, 0, none⟩ = false ∧ W.frozen? ⟨g, 1, none⟩ = false ∧ W.frozen? ⟨g, 2, none⟩ = false := ⟨frozen_of_heap b, frozen_of_heap b, frozen_of_heap b⟩
theorem KqBox.store (b : KqBox W g r s ld) (r' s' : Value) (ld' : Int) : KqBox (((W.setCell ⟨g, 0, none⟩ r').setCell ⟨g, 1, none⟩ s').setCell ⟨g, 2, none⟩ (.int .i64 ld')) g r' s' ld' :=
  heap_setCell_at (j := 2) (u := .int .i64 ld') (heap_setCell_at (j := 1) (u := s') (heap_setCell_at (j := 0) (u := r') b))
theorem KqBox.lead (b : KqBox W g r s ld) (ld' : Int) : KqBox (W.setCell ⟨g, 2, none⟩ (.int .i64 ld')) g r s ld' := heap_setCell_at (j := 2) (u := .int .i64 ld') b
theorem KqBox.far {h : Nat} (b : KqBox W g r s ld) (hne : g ≠ h) (j : Nat) (u : Value) : KqBox (W.setCell ⟨h, j, none⟩ u) g r s ld := (Below.heap_setCell _ _ _ _ hne).trans b
end
theorem kq_laid (w : World) (r s : Value) (ld : Int) : ∃ W, W = (w.alloc (.cells #[r, s, .int .i64 ld] 140)).alloc (.cells #[nilS, nilS, .int .i64 0] 140) ∧
    Below w.heap.size w W ∧ W.heap.size = w.heap.size + 1 + 1 ∧ KqBox W w.heap.size r s ld ∧ KqBox W (w.heap.size + 1) nilS nilS 0 := by
  have z1 : (w.alloc (.cells #[r, s, .int .i64 ld] 140)).heap.size = w.heap.size + 1 := World.size_alloc _ _
  have a1 : KqBox (w.alloc (.cells #[r, s, .int .i64 ld] 140)) w.heap.size r s ld := heap_alloc_new w _
  have a2 := heap_alloc_new (w.alloc (.cells #[r, s, .int .i64 ld] 140)) (.cells #[nilS, nilS, .int .i64 0] 140)
  rw [z1] at a2
  exact ⟨_, rfl, ((Below.refl _ _).alloc (Nat.le_refl _) _).alloc (by omega) _, by rw [World.size_alloc, z1], (Below.heap_alloc _ _ _ (by omega)).trans a1, a2⟩

set_option maxRecDepth 1000000 in
set_option maxHeartbeats 8000000 in
theorem rLess_any {w : World} (base : Nat) (A : Nat → Prop) (hA : ∀ g, w.heap.size ≤ g → A g) (hbase : base ≤ w.heap.size) (vL v1 v2 : Value) (L : List Kq) (R : List Bool) (S : List Nat) (n size : Nat) (ld : Int) (hL : KqsAt w vL L) (hok : KqOk n size L)
    (h1 : ElM boolV 4 base A w v1 R) (h2 : ElM byteV 5 base A w v2 S) (hR : R.length = n) (hS : S.length = size ∧ Octets S) (hn : n ≤ 4096) (hz : size ≤ 64) :
    Calls Tryz.prog 76 #[vL, .agg #[v1, v2, .int .i64 ld]] w fun e w' => ∃ (r' s' : Value) (R' : List Bool) (S' : List Nat) (z : Int), e = .returned (.agg #[r', s', .int .i64 z]) ∧ ElM boolV 4 base A w' r' R' ∧ ElM byteV 5 base A w' s' S' ∧ R'.length = n ∧ (S'.length = size ∧ Octets S') ∧ lineV R' S' = lessV (L.map kqV) (lineV R S) ∧ LeadB R' z ∧ Below w.heap.size w w' := by
  obtain ⟨i0, hi, hz0, hz1, hz2⟩ := info_parts info_bool
  obtain ⟨w0, hw0, hb0, hs0, hx0, hx1⟩ := kq_laid w v1 v2 ld
  have HW0 := Lib.hid hw0
  have HB0 := Lib.hid hb0
  have HS0 := Lib.hid hs0
  have HX0 := Lib.hid hx0
  have HX1 := Lib.hid hx1
  have HA := Lib.hid hA
  have HBASE := Lib.hid hbase
  have HOK := Lib.hid hok
  have HE0 := Lib.hid (show ElM boolV 4 base A w0 v1 R ∧ ElM byteV 5 base A w0 v2 S from ⟨h1.mono hb0, h2.mono hb0⟩)
  have HRS := Lib.hid (show R.length = n ∧ S.length = size ∧ Octets S from ⟨hR, hS⟩)
  have hml := hok.len
  obtain ⟨aL, cL, rfl, hcL, hmL, hcell⟩ := hL
  have HC := Lib.hid hcell
  obtain ⟨m, hm⟩ : ∃ m, L.length = m := ⟨_, rfl⟩
  have HM := Lib.hid hm
  rw [hm] at HC hml hcL ⊢
  clear hw0 hb0 hs0 hx0 hx1 hA hbase hok h1 h2 hR hS hcell hm
  go_enter Tryz.func76, Tryz.ntmps76
  go_upto_region 1 with fail
  rw [← HW0.out]
  go_wp2_with fail
  go_loopw [5] (fun i wr => ∃ (j : Nat) (r s : Value) (R' : List Bool) (S' : List Nat) (z : Int), j ≤ m ∧ i = .int .i64 j ∧ KqBox wr w.heap.size r s z ∧ KqBox wr (w.heap.size + 1) nilS nilS 0 ∧ ElM boolV 4 base A wr r R' ∧ ElM byteV 5 base A wr s S' ∧ R'.length = n ∧ (S'.length = size ∧ Octets S') ∧ lineV R' S' = lessV ((L.take j).map kqV) (lineV R S) ∧ Below w.heap.size w wr ∧ w0.heap.size ≤ wr.heap.size) (fun i _ => m - (intOf i).toNat)
  case atStart => exact ⟨0, v1, v2, R, S, ld, Nat.zero_le _, rfl, HX0.out, HX1.out, HE0.out.1, HE0.out.2, HRS.out.1, HRS.out.2, rfl, HB0.out, Nat.le_refl _⟩
  case round =>
    obtain ⟨j, r, s, R', S', z, hj, rfl, hbx, hrb, he1, he2, hR', hS', hlv, hbel, hsz⟩ := hrel
    have HBX := Lib.hid hbx
    have HRB := Lib.hid hrb
    have HE := Lib.hid (show ElM boolV 4 base A wr r R' ∧ ElM byteV 5 base A wr s S' from ⟨he1, he2⟩)
    have HRS' := Lib.hid (show R'.length = n ∧ S'.length = size ∧ Octets S' from ⟨hR', hS'⟩)
    have HLV := Lib.hid hlv
    have HBL := Lib.hid hbel
    have hs2 := HS0.out
    by_cases hlt : j < m
    · obtain ⟨bL, oL, rfl, hcc⟩ := HC.out (by omega)
      obtain ⟨ri, si, k0, k1, k2, k3, k4⟩ := hcc j hlt
      have hjL : j < L.length := by rw [HM.out]; exact hlt
      have hlead := HOK.out.lead hjL
      obtain ⟨hri, hsi, hoi⟩ := HOK.out.row j hjL
      have HTK := Lib.hid (takeK_succ hjL (lineV R S))
      have hbL := World.block_lt_of_cell? w _ k0
      have x0 := (hbel.cell (p := ⟨bL, oL + j * 3, none⟩) hbL).trans k0
      have x1 := (hbel.cell (p := ⟨bL, oL + j * 3 + 1, none⟩) hbL).trans k1
      have x2 := (hbel.cell (p := ⟨bL, oL + j * 3 + 2, none⟩) hbL).trans k2
      have l3 := k3.mono hbel
      have l4 := k4.mono hbel
      have hkv : kqV (L.getD j noKq) = (lineV (L.getD j noKq).1.1 (L.getD j noKq).1.2, (L.getD j noKq).2) := rfl
      rw [hkv] at HTK
      clear hkv k0 k1 k2 k3 k4 hcc
      generalize (L.getD j noKq).1.1 = Ri at *
      generalize (L.getD j noKq).1.2 = Si at *
      generalize (L.getD j noKq).2 = c at *
      have HLI := Lib.hid (show ListAt boolV wr ri Ri ∧ ListAt byteV wr si Si from ⟨l3, l4⟩)
      have HLN := Lib.hid (show Ri.length = n ∧ Si.length = size ∧ Octets Si from ⟨hri, hsi, hoi⟩)
      obtain ⟨ai, ci, rfl, -, -, hic⟩ := l3
      obtain ⟨asi, csi, rfl, -, -, -⟩ := l4
      obtain ⟨ar, cr, rfl, -, -, hrc⟩ := id he1.1
      obtain ⟨asv, csv, rfl, -, -, -⟩ := id he2.1
      rw [hri] at x0 HLI
      rw [hsi] at x1 HLI
      rw [hR'] at HBX HE hbx
      rw [hS'.1] at HBX HE hbx
      obtain ⟨br, or, rfl, hrc2⟩ := hrc (by omega)
      obtain ⟨bi, oi, rfl, hic2⟩ := hic (by omega)
      have HCR : Hid (∀ t, t < n → wr.cell? ⟨br, or + t, none⟩ = some (.bool (bitB R' t))) := Lib.hid fun t ht => by
        have : t < R'.length := by omega
        rw [hrc2 t this]; simp [boolV, bitB, this]
      have HCI : Hid (∀ t, t < n → wr.cell? ⟨bi, oi + t, none⟩ = some (.bool (bitB Ri t))) := Lib.hid fun t ht => by
        have : t < Ri.length := by omega
        rw [hic2 t this]; simp [boolV, bitB, this]
      obtain ⟨e0, e1, e2⟩ := hbx.cells
      have xr := HCR.out c hlead
      have hbt0 : lineV R' S' c = bitB R' c := by
        rw [lineV_row (by omega)]
        rfl
      have HBT0 := Lib.hid hbt0
      obtain ⟨bt, hbt⟩ : ∃ bt, bitB R' c = bt := ⟨_, rfl⟩
      have HBT := Lib.hid hbt
      rw [hbt] at xr
      clear he1 he2 hR' hS' hlv hbel hrc2 hic2 hri hsi hoi hbx hrb hbt0 hbt hjL
      cases bt with
      | false =>
        go_wp2_with fail
        go_region
        go_wp2
        go_roundw
        case rel => exact ⟨j + 1, _, _, R', S', z, by omega, by go_num, HBX.out, HRB.out, HE.out.1.mono ((Below.refl _ _).drew), HE.out.2.mono ((Below.refl _ _).drew), HRS'.out.1, HRS'.out.2, by rw [HTK.out, ← HLV.out]; exact (if_neg (by rw [HBT0.out, HBT.out]; decide)).symm, HBL.out.drew, hsz⟩
        case measure => simp [intOf]; omega
      | true =>
        go_wp2_with fail
        go_region
        go_wp2_with fail
        obtain ⟨wo, hwo⟩ : ∃ wo, wo = wr := ⟨_, rfl⟩
        subst hwo
        have HBXo := HBX
        have HRBo := HRB
        have HEo := HE
        have HCRo := HCR
        have HCIo := HCI
        have HX0o := Lib.hid (show wo.cell? ⟨bL, oL + j * 3, none⟩ = some (.slice (some ⟨bi, oi, none⟩) n ci) ∧ wo.cell? ⟨bL, oL + j * 3 + 1, none⟩ = some (.slice asi size csi) from ⟨x0, x1⟩)
        have HLIo := Lib.hid HLI.out.2
        have HBLo := HBL
        have hszo := hsz
        clear e0 e1 e2 x0 x1 x2 xr HCR HCI hsz HBX HRB HE HBL
        go_loopw [6, 7] (fun o i wx => ∃ t : Nat, t ≤ n ∧ i = .int .i64 t ∧ wx.ownsRow wo.heap.size 4 1 o t (((List.range t).map fun c => (bitB R' c != bitB Ri c)).map boolV) ∧ Below wo.heap.size wo wx) (fun _ i _ => n - (intOf i).toNat)
        case atStart => exact ⟨0, Nat.zero_le _, rfl, owns_kept (World.ownsRow_made (base := wo.heap.size) (e := 4) (size := 1) wo #[] 0 (Nat.le_refl _) (by decide) rfl) ((Below.refl _ _).drew), ((Below.refl _ _).alloc (Nat.le_refl _) _).drew⟩
        case round =>
          obtain ⟨t, ht, rfl, hown, hbel⟩ := hrel
          have HO := Lib.hid hown
          have HB := Lib.hid hbel
          obtain ⟨ao, co, rfl, -, -⟩ := own_open hown
          have hbx := HBXo.out.mono hbel
          have HSG : Hid (((List.range (t + 1)).map fun c => (bitB R' c != bitB Ri c)).map boolV = ((List.range t).map fun c => (bitB R' c != bitB Ri c)).map boolV ++ [boolV (bitB R' t != bitB Ri t)]) := Lib.hid (by rw [List.range_succ, List.map_append, List.map_append]; rfl)
          by_cases htn : t < n
          · obtain ⟨e0, e1, e2⟩ := hbx.cells
            have hbd := hbel.drew
            have c1 := HCRo.out t htn
            have c2 := HCIo.out t htn
            have y1 : wr.drew.cell? ⟨br, or + t, none⟩ = some (.bool (bitB R' t)) := (hbd.cell (p := ⟨br, or + t, none⟩) (World.block_lt_of_cell? wo _ c1)).trans c1
            have y2 : wr.drew.cell? ⟨bi, oi + t, none⟩ = some (.bool (bitB Ri t)) := (hbd.cell (p := ⟨bi, oi + t, none⟩) (World.block_lt_of_cell? wo _ c2)).trans c2
            have y0 : wr.drew.cell? ⟨bL, oL + j * 3, none⟩ = some (.slice (some ⟨bi, oi, none⟩) n ci) := (hbd.cell (p := ⟨bL, oL + j * 3, none⟩) (World.block_lt_of_cell? wo _ HX0o.out.1)).trans HX0o.out.1
            have e0d : wr.drew.cell? ⟨w.heap.size, 0, none⟩ = some (.slice (some ⟨br, or, none⟩) n cr) := e0
            have HOD := Lib.hid (owns_kept hown ((Below.refl wr.heap.size wr).drew))
            have HBD := Lib.hid hbd
            have hszd : wo.heap.size ≤ wr.heap.size := hbd.size
            clear hown hbel hbd hbx c1 c2 e1 e2
            have hN := neqBool (bitB R' t) (bitB Ri t) _ rfl
            generalize hbe : (bitB R' t != bitB Ri t) = bt at *
            generalize bitB R' t = p1 at hN y1
            generalize bitB Ri t = p2 at hN y2
            clear hbe
            go_wp2_with fail
            go_region_law (refine step_append_lies _ rfl (.tmp 31) (.tmp 46) 138 rfl wo.heap.size 4 i0 (.bool false) 1 1 Tryz.underlying138 hi hz0 hz1 hz2 rfl (by decide) (.slice ao t co) t _ (by simp [Act.eval]) (HOD.out.alloc _) ⟨wr.heap.size, 0, none⟩ 1 1 [.bool bt] (by simp [Act.eval]) rfl (cell_one_new _ _ _) (fun x hx => by simp at hx; subst hx; rfl) (by decide) (by unfold maxLen; omega) (by omega) (by simp; omega) _ rfl ?_; intro g2 q2 w6 hown1 hgrow1 _ _; have HB6 := Lib.hid ((HBD.out.alloc hszd _).grown hgrow1 (by simp; omega) (fun k hk => (HOD.out.lt k hk).1)); have HO6 := Lib.hid hown1; clear hown1 hgrow1)
            all_goals go_wp2
            all_goals exact ⟨⟨t + 1, by omega, by go_num, by rw [HSG.out]; exact HO6.out, HB6.out⟩, by simp [intOf]; omega⟩
          · obtain rfl : t = n := by omega
            obtain ⟨e0, -, -⟩ := hbx.cells
            have hbd := hbel.drew
            have HBD := Lib.hid hbd
            have hwr := hbel.size
            have HSAT : Hid (∀ Z, Below wo.heap.size wo Z → Z.cell? ⟨w.heap.size, 1, none⟩ = some (.slice asv size csv) ∧ Z.cell? ⟨bL, oL + j * 3 + 1, none⟩ = some (.slice asi size csi)) := Lib.hid fun Z hZ => ⟨(HBXo.out.keep hZ HBXo.out.lt).cells.2.1, (hZ.cell (p := ⟨bL, oL + j * 3 + 1, none⟩) (World.block_lt_of_cell? wo _ HX0o.out.2)).trans HX0o.out.2⟩
            have HSD0 := Lib.hid (HSAT.out _ hbd)
            have HAD : Hid (Calls Tryz.prog 90 #[.slice asv size csv, .slice asi size csi] wr.drew fun e w' => ∃ v', e = .returned v' ∧ w'.ownsRow wr.drew.heap.size 5 1 v' size ((xorW S' Si).map byteV) ∧ Below wr.drew.heap.size wr.drew w') :=
              Lib.hid (sAdd_any _ _ S' Si size (HEo.out.2.1.mono (hbd.mono (Nat.le_refl _))) (HLIo.out.mono hbd) HRS'.out.2.2 HLN.out.2.2 HRS'.out.2.1 HLN.out.2.1 (by omega))
            have HSU : Hid (((List.range t).map fun c => (bitB R' c != bitB Ri c)) = sumB R' Ri) := Lib.hid (by unfold sumB; rw [HRS'.out.1])
            rw [HSU.out] at HO
            have hA := HA.out
            have hB := HBASE.out
            have hzo := HBLo.out.size
            clear hown hbel hbx hbd
            go_wp2_with fail
            obtain ⟨e1d, x1d⟩ := HSD0.out
            go_region_law (go_simp; go_at_call 90; refine HAD.out.mono ?_; rintro o2 w6 ⟨v6, rfl, ho6, hb6⟩; have HBV := Lib.hid (HBD.out.trans (hb6.mono hwr)); have HO6 := Lib.hid ho6; have HOW6 := Lib.hid (owns_kept HO.out ((Below.refl wr.heap.size wr).drew.trans hb6)); have hbx6 := HBXo.out.keep HBV.out HBXo.out.lt; have HBX6 := Lib.hid hbx6; obtain ⟨q0, q1, q2⟩ := hbx6.cells; obtain ⟨f0, f1, f2⟩ := hbx6.free; obtain ⟨a6, c6, rfl, -, -⟩ := own_open ho6; clear ho6 hb6 hbx6 e1d x1d)
            all_goals
              go_wp2
              go_roundw
              case measure => simp [intOf]; omega
              case rel =>
                have hon : ∀ x, x ≠ w.heap.size → x ≠ w.heap.size + 1 → (((w6.setCell ⟨w.heap.size, 0, none⟩ (.slice ao t co)).setCell ⟨w.heap.size, 1, none⟩ (.slice a6 size c6)).setCell ⟨w.heap.size, 2, none⟩ (.int .i64 0)).heap[x]? = w6.heap[x]? := fun x h1 h2 => by
                  rw [Below.heap_setCell _ _ _ _ h1, Below.heap_setCell _ _ _ _ h1, Below.heap_setCell _ _ _ _ h1]
                have HRB6 := HRBo.out.keep HBV.out HRBo.out.lt
                have hww : wo.heap.size ≤ w6.heap.size := HBV.out.size
                exact ⟨j + 1, _, _, sumB R' Ri, xorW S' Si, 0, by omega, by go_num, HBX6.out.store _ _ _, ((HRB6.far (by omega) 0 _).far (by omega) 1 _).far (by omega) 2 _,
                  (ElM.own HOW6.out fun b hb => hA b (by omega)).only HBX6.out HRB6 hB (by omega) (by decide) hon, (ElM.own HO6.out fun b hb => hA b (by have h9 : wr.heap.size ≤ b := hb; omega)).only HBX6.out HRB6 hB (by omega) (by decide) hon, by rw [sumB_length]; exact HRS'.out.1, ⟨by rw [xorW_length (by rw [HRS'.out.2.1, HLN.out.2.1])]; exact HRS'.out.2.1, xorW_byte HRS'.out.2.2 HLN.out.2.2⟩,
                  by rw [HTK.out, ← HLV.out, lineV_add (by rw [HRS'.out.1, HLN.out.1]) (by rw [HRS'.out.2.1, HLN.out.2.1])]; exact (if_pos (by rw [HBT0.out, HBT.out])).symm,
                  (((HBLo.out.trans (HBV.out.mono hzo)).setCell (p := ⟨w.heap.size, 0, none⟩) (Nat.le_refl _) _).setCell (p := ⟨w.heap.size, 1, none⟩) (Nat.le_refl _) _).setCell (p := ⟨w.heap.size, 2, none⟩) (Nat.le_refl _) _, by simp [World.setCell] at hww ⊢; omega⟩
    · obtain rfl : j = m := by omega
      have HLA : Hid (Calls Tryz.prog 113 #[r] wr fun e w' => ∃ z, e = .returned (.int .i64 z) ∧ LeadB R' z ∧ wr = w') := Lib.hid (rLead_any r R' he1.1)
      obtain ⟨ar, cr, rfl, -, -, -⟩ := id he1.1
      obtain ⟨asv, csv, rfl, -, -, -⟩ := id he2.1
      obtain ⟨e0, e1, e2⟩ := hbx.cells
      obtain ⟨f0, f1, f2⟩ := hbx.free
      obtain ⟨q0, q1, q2⟩ := hrb.cells
      obtain ⟨g0, g1, g2⟩ := hrb.free
      clear he1 he2 hR' hS' hlv hbel hbx hrb
      go_wp2_with fail
      refine HLA.out.mono ?_
      rintro e w2 ⟨z2, rfl, hz2, rfl⟩
      have HZ2 := Lib.hid hz2
      clear hz2
      go_wp2_with fail
      refine bodyPost_ret (results_row1 rfl _ _ (w.heap.size + 1) 140 _ (0, 0) _ rfl ((HRB.out.far (by omega) 2 _).store _ _ _) Tryz.underlying140 rfl (by kernel_rfl)) rfl ?_
      have hon : ∀ x, x ≠ w.heap.size → x ≠ w.heap.size + 1 → ((((wr.setCell ⟨w.heap.size, 2, none⟩ (.int .i64 z2)).setCell ⟨w.heap.size + 1, 0, none⟩ (.slice ar R'.length cr)).setCell ⟨w.heap.size + 1, 1, none⟩ (.slice asv S'.length csv)).setCell ⟨w.heap.size + 1, 2, none⟩ (.int .i64 z2)).heap[x]? = wr.heap[x]? := fun x h1 h2 => by
        rw [Below.heap_setCell _ _ _ _ h2, Below.heap_setCell _ _ _ _ h2, Below.heap_setCell _ _ _ _ h2, Below.heap_setCell _ _ _ _ h1]
      have hB := HBASE.out
      exact ⟨_, _, R', S', z2, rfl, HE.out.1.only HBX.out HRB.out hB (by omega) (by decide) hon, HE.out.2.only HBX.out HRB.out hB (by omega) (by decide) hon, HRS'.out.1, HRS'.out.2, by rw [HLV.out, ← HM.out, List.take_length], HZ2.out,
        (((HBL.out.setCell (p := ⟨w.heap.size, 2, none⟩) (Nat.le_refl _) _).setCell (p := ⟨w.heap.size + 1, 0, none⟩) (Nat.le_succ _) _).setCell (p := ⟨w.heap.size + 1, 1, none⟩) (Nat.le_succ _) _).setCell (p := ⟨w.heap.size + 1, 2, none⟩) (Nat.le_succ _) _⟩
end Go.Proofs.YtkhdjjcflbdegaaGreatDoor
end

section
/- 'make' in a region that draws its order. -/
namespace Go.Proofs.YtkhdjjcflbdegaaGreatDoor
open Go.RowKit Go.Extern.Stop Go.Stop Go.Extern

/-- 'make([]T, n)' as a region that draws leaves it: n zero elements are owned. -/
theorem upon_make_all {P : Program} {w : World} {o : Oper} {a : Act} {K : Act → World → Prop} {Q : Exit → Act → World → Prop} (t : TypeId)
    (base : Nat) (e : TypeId) (i : TypeInfo) (z : Value) (size : Nat) (h1 : P.underlying t = some (.slice e)) (h2 : P.info? e = some i) (h3 : i.zero = some z) (h4 : i.size = size)
    (kl kc : IntKind) (n : Nat) (b2 : i.bytes * n ≤ 281474976710656) (b3 : n ≤ maxLen) (b4 : base ≤ w.heap.size)
    (h : ∀ w', w'.ownsRow base e size (.slice (some ⟨w.heap.size, 0, none⟩) n n) n (madeCells z.cells (n * size)).toList → w.grownBy w' none → K (a.put o.dst (.slice (some ⟨w.heap.size, 0, none⟩) n n)) w') :
    Oper.upon P o a K Q (((Instr.makeSlice t (.int kl (n : Int)) (.int kc (n : Int))).run P w).andThen fun v w' => .ok (.value v) w') := by
  obtain ⟨w', hrun, r1, r2⟩ := run_make_full (P := P) w base t e i z size h1 h2 h3 h4 kl kc n b2 b3 b4
  rw [hrun]
  exact h w' r1 r2
end Go.Proofs.YtkhdjjcflbdegaaGreatDoor
end
