import Derived.Deep.AppendLies
import Derived.Test.YtkfimdpcadbcpaaGreatDoorA01
import Derived.Test.YtkfimdpcadbcpaaGreatDoorA02
import Derived.BigQuiet
import Derived.Deep.Cut
import Derived.Deep.WholeRow
import Derived.Laws.Tables
import Derived.Test.YtkfimdpcadbcpaaGreatDoorChecked
import Derived.Deep.RegionHeld3
import Derived.Deep.RegionLaw
import Derived.OwnWalk
import Derived.Laws.AppendOwnNone
import Derived.Test.YtkfimdpcadbcpaaGreatDoorA04
import Derived.WalkKit
import Derived.LaidLaws
import Derived.ChangeArms
import Derived.ChangeSame
import Derived.OpenShut
import Derived.FnData
import Derived.Test.YtkfimdpcadbcpaaGreatDoorA05
import Derived.Test.YtkfimdpcadbcpaaGreatDoorA03
import Derived.Shelf.Strconv.Itoa0
import Derived.Shelf.Spec.TrailingZeros
import Derived.Laws.Bits128
set_option linter.unusedSimpArgs false
set_option linter.unusedVariables false
set_option maxRecDepth 1000000
set_option maxHeartbeats 8000000
namespace Go.Proofs.YtkfimdpcadbcpaaGreatDoor
section
open Go.RowKit Go.Extern.Stop Go.Stop Go.Extern
theorem ElAt.keep {α : Type} {f : α → Value} {te : TypeId} {base : Nat} {w w' : World} {x : Value} {r : List α} (h : ElAt f te base w x r) (hs : ∀ b, b < w.heap.size → (b < base ∨ ∃ cur, w.heap[b]? = some (.cells cur te (0, 0))) → w'.heap[b]? = w.heap[b]?) : ElAt f te base w' x r := by
  by_cases hp : 0 < r.length
  · have hnb : ∀ b, x.ownBlock = some b → w'.heap[b]? = w.heap[b]? := fun b hx => hs b (h.1.block hp b hx) (h.2 hp b hx)
    obtain ⟨⟨a, cap, rfl, h1, h2, h3⟩, h4⟩ := h
    obtain ⟨b, off, rfl, hc⟩ := h3 hp
    have hnb' := hnb b rfl
    refine ⟨⟨_, cap, rfl, h1, h2, fun _ => ⟨b, off, rfl, fun j hj => ?_⟩⟩, fun _ b' hb' => ?_⟩
    · rw [World.cell?_of_block (w := w) (a := ⟨b, off + j, none⟩) hnb']; exact hc j hj
    · have : b = b' := by simpa [Value.ownBlock] using hb'
      subst this
      rw [hnb']
      exact h4 hp b rfl
  · obtain ⟨⟨a, cap, rfl, h1, h2, _⟩, _⟩ := h
    exact ⟨⟨a, cap, rfl, h1, h2, fun hp' => absurd hp' hp⟩, fun hp' => absurd hp' hp⟩
structure RecEl {α : Type} (k : Nat) (T : TypeId → Prop) (El : Nat → World → List Value → α → Prop) : Prop where
  pos : 0 < k
  len : ∀ {C w cs x}, El C w cs x → cs.length = k
  one : ∀ {C w cs x}, El C w cs x → ∀ u ∈ cs, u.oneCell' = true
  keep : ∀ {C w w' cs x}, El C w cs x → (∀ b, b < w.heap.size → (b < C ∨ ∃ t cur, T t ∧ w.heap[b]? = some (.cells cur t (0, 0))) → w'.heap[b]? = w.heap[b]?) → El C w' cs x
section
variable {α : Type} {k : Nat} {T : TypeId → Prop} {El : Nat → World → List Value → α → Prop}
theorem RecEl.mono (R : RecEl k T El) {C : Nat} {w w' : World} {cs : List Value} {x : α} (h : El C w cs x) (hb : Below w.heap.size w w') : El C w' cs x := R.keep h fun b hl _ => hb.block b hl
def RecsEl (k : Nat) (El : Nat → World → List Value → α → Prop) (C : Nat) (w : World) (cs : List Value) (L : List α) : Prop :=
  cs.length = L.length * k ∧ ∀ j x, L[j]? = some x → El C w ((cs.drop (j * k)).take k) x
def RecsAt (k : Nat) (El : Nat → World → List Value → α → Prop) (C : Nat) (w : World) (v : Value) (L : List α) : Prop :=
  ∃ a cap cs, v = .slice a L.length cap ∧ L.length ≤ cap ∧ cap ≤ maxLen ∧ (0 < L.length → ∃ b off, a = some ⟨b, off, none⟩ ∧ ∀ j u, cs[j]? = some u → w.cell? ⟨b, off + j, none⟩ = some u) ∧ RecsEl k El C w cs L
def RecsOwn (k : Nat) (El : Nat → World → List Value → α → Prop) (C base : Nat) (e : TypeId) (w : World) (v : Value) (L : List α) : Prop :=
  ∃ cs, w.ownsRow base e k v L.length cs ∧ RecsEl k El C w cs L
theorem RecsEl.keep (R : RecEl k T El) {C : Nat} {w w' : World} {cs : List Value} {L : List α} (h : RecsEl k El C w cs L) (hs : ∀ b, b < w.heap.size → (b < C ∨ ∃ t cur, T t ∧ w.heap[b]? = some (.cells cur t (0, 0))) → w'.heap[b]? = w.heap[b]?) : RecsEl k El C w' cs L :=
  ⟨h.1, fun j x hj => R.keep (h.2 j x hj) hs⟩
theorem RecsEl.mono (R : RecEl k T El) {C : Nat} {w w' : World} {cs : List Value} {L : List α} (h : RecsEl k El C w cs L) (hb : Below w.heap.size w w') : RecsEl k El C w' cs L := h.keep R fun b hl _ => hb.block b hl
theorem RecsEl.append {C : Nat} {w : World} {cs ds : List Value} {L M : List α} (h1 : RecsEl k El C w cs L) (h2 : RecsEl k El C w ds M) : RecsEl k El C w (cs ++ ds) (L ++ M) := by
  refine ⟨by rw [List.length_append, List.length_append, h1.1, h2.1, Nat.add_mul], fun j x hj => ?_⟩
  by_cases hl : j < L.length
  · rw [List.getElem?_append_left hl] at hj
    have h := h1.2 j x hj
    have hle : j * k + k ≤ cs.length := by
      rw [h1.1, ← Nat.succ_mul]
      exact Nat.mul_le_mul_right k hl
    rw [List.drop_append_of_le_length (by omega), List.take_append_of_le_length (by rw [List.length_drop]; omega)]
    exact h
  · rw [List.getElem?_append_right (by omega)] at hj
    have h := h2.2 (j - L.length) x hj
    have e : j * k = cs.length + (j - L.length) * k := by
      rw [h1.1, ← Nat.add_mul]
      congr 1; omega
    rw [e, List.drop_append]
    rw [List.drop_of_length_le (by omega), List.nil_append]
    rw [show cs.length + (j - L.length) * k - cs.length = (j - L.length) * k by omega]
    exact h
theorem RecsEl.nil (C : Nat) (w : World) : RecsEl k El C w [] ([] : List α) := ⟨by simp, fun j x h => by simp at h⟩
theorem RecsEl.single (R : RecEl k T El) {C : Nat} {w : World} {cs : List Value} {x : α} (h : El C w cs x) : RecsEl k El C w cs [x] := by
  have hl := R.len h
  refine ⟨by rw [hl]; simp, fun j y hj => ?_⟩
  cases j with
  | zero =>
    obtain rfl : x = y := by simpa using hj
    rw [Nat.zero_mul, List.drop_zero, List.take_of_length_le (by omega)]
    exact h
  | succ j => simp at hj
theorem RecsEl.one (R : RecEl k T El) {C : Nat} {w : World} {cs : List Value} {L : List α} (h : RecsEl k El C w cs L) : ∀ u ∈ cs, u.oneCell' = true := by
  intro u hu
  obtain ⟨i, hi, rfl⟩ := List.getElem_of_mem hu
  have hk := R.pos
  have hil : i / k < L.length := by rw [Nat.div_lt_iff_lt_mul hk, ← h.1]; exact hi
  have h2 := h.2 (i / k) _ (List.getElem?_eq_getElem hil)
  refine R.one h2 _ ?_
  rw [List.mem_iff_getElem?]
  have hm := Nat.mod_lt i hk
  have hd := Nat.div_add_mod i k
  refine ⟨i % k, ?_⟩
  rw [List.getElem?_take, if_pos hm, List.getElem?_drop, Nat.mul_comm, hd, List.getElem?_eq_getElem hi]
theorem RecsAt.opens {C : Nat} {w : World} {v : Value} {L : List α} (h : RecsAt k El C w v L) : ∃ a cap, v = .slice a L.length cap ∧ L.length ≤ cap ∧ cap ≤ maxLen ∧ (0 < L.length → ∃ b off, a = some ⟨b, off, none⟩ ∧
    ∀ j x, L[j]? = some x → ∃ cs, El C w cs x ∧ ∀ i u, cs[i]? = some u → w.cell? ⟨b, off + j * k + i, none⟩ = some u) := by
  obtain ⟨a, cap, cs, rfl, h1, h2, h3, h4⟩ := h
  refine ⟨a, cap, rfl, h1, h2, fun hp => ?_⟩
  obtain ⟨b, off, rfl, hc⟩ := h3 hp
  refine ⟨b, off, rfl, fun j x hj => ⟨_, h4.2 j x hj, fun i u hu => ?_⟩⟩
  rw [List.getElem?_take] at hu
  split at hu
  · rw [List.getElem?_drop] at hu
    rw [Nat.add_assoc]
    exact hc _ _ hu
  · cases hu
theorem RecsOwn.mono (R : RecEl k T El) {C base : Nat} {e : TypeId} {w w' : World} {v : Value} {L : List α} (h : RecsOwn k El C base e w v L) (hb : Below w.heap.size w w') : RecsOwn k El C base e w' v L := by
  obtain ⟨cs, h1, h2⟩ := h
  exact ⟨cs, zAh h1 hb, h2.mono R hb⟩
theorem RecsOwn.at {C base : Nat} {e : TypeId} {w : World} {v : Value} {L : List α} (h : RecsOwn k El C base e w v L) : RecsAt k El C w v L := by
  obtain ⟨cs, h1, h2⟩ := h
  have hl := h1.1
  rcases h1.2 with ⟨rfl, h0⟩ | ⟨g, cap, cur, rfl, hbg, hh, hc, hm, hs, htk⟩
  · exact ⟨none, 0, cs, by rw [h0], by omega, Nat.zero_le _, fun hp => by omega, h2⟩
  · refine ⟨_, _, cs, rfl, hc, hm, fun hp => ⟨g, 0, rfl, fun j u hu => ?_⟩, h2⟩
    have hj : j < cs.length := (List.getElem?_eq_some_iff.1 hu).1
    rw [World.ownsRow.cellAt h1 (0 + j) (by omega), Nat.zero_add]
    exact hu
theorem RecsOwn.opened {C base : Nat} {e : TypeId} {w : World} {v : Value} {L : List α} (h : RecsOwn k El C base e w v L) : ∃ ao cap, v = .slice ao L.length cap ∧ L.length ≤ cap := by
  obtain ⟨cs, h1, h2⟩ := h
  rcases h1.2 with ⟨rfl, h0⟩ | ⟨g, cap, cur, rfl, hbg, hh, hc, hm, hs, htk⟩
  · exact ⟨none, 0, by rw [h0], by omega⟩
  · exact ⟨_, cap, rfl, hc⟩
theorem RecsOwn.zero (C base : Nat) (e : TypeId) (w : World) : RecsOwn k El C base e w nilS ([] : List α) := ⟨[], World.ownsRow_nil _ _ _ _, RecsEl.nil _ _⟩
theorem zLv {w w' : World} {base n kk : Nat} {e : TypeId} {v : Value} {cs : List Value} (ho : w.ownsRow base e kk v n cs) (hg : w.grownBy w' v.ownBlock) (C : Nat) (hC : C ≤ base) (hT : ¬ T e) :
    ∀ b, b < w.heap.size → (b < C ∨ ∃ t cur, T t ∧ w.heap[b]? = some (.cells cur t (0, 0))) → w'.heap[b]? = w.heap[b]? := fun b hb hk => hg.block b hb fun hv => by
  rcases ho.2 with ⟨rfl, _⟩ | ⟨g, cap, cur, rfl, hbg, hgg, _⟩
  · simp [Value.ownBlock] at hv
  · have : b = g := by simpa [Value.ownBlock] using hv
    subst this
    rcases hk with h1 | ⟨t, cur', ht, h1⟩
    · omega
    · rw [h1] at hgg
      cases hgg
      exact hT ht
theorem RecsOwn.more (R : RecEl k T El) {C base : Nat} {e : TypeId} (hC : C ≤ base) (hT : ¬ T e) {w w' : World} {v v' : Value} {L M : List α} {cs ds : List Value} {n : Nat} (hn : n = L.length + M.length)
    (ho : w.ownsRow base e k v L.length cs) (h1 : RecsEl k El C w cs L) (h2 : RecsEl k El C w ds M) (ho' : w'.ownsRow base e k v' n (cs ++ ds)) (hg : w.grownBy w' v.ownBlock) : RecsOwn k El C base e w' v' (L ++ M) := by
  subst hn
  refine ⟨cs ++ ds, by rw [List.length_append]; exact ho', (h1.append h2).keep R (zLv ho hg C hC hT)⟩
theorem zAG {P : Program} (R : RecEl k T El) (w : World) {ops : Array Oper} {rest : List Oper} {o : Oper} {a : Act} {Q : Exit → Act → World → Prop} (hgd : o.guard = none) (s x : Operand) (t : TypeId)
    (ho : o.op = .call { callee := .builtin .append, args := #[s, x], argTypes := #[t, t] })
    (C base : Nat) (hC : C ≤ base) (e : TypeId) (hT : ¬ T e) (i : TypeInfo) (z : Value) (bytes : Nat) (ht : P.underlying t = some (.slice e)) (hi : P.info? e = some i) (hz : i.zero = some z)
    (hsize : i.size = k) (hby : i.bytes = bytes) (hzs : z.cells.size = k)
    (v : Value) (F : List α) (hs : a.eval s = v) (hown : RecsOwn k El C base e w v F)
    (src : Value) (L : List α) (hx : a.eval x = src) (hl : RecsAt k El C w src L)
    (h63 : F.length + L.length ≤ maxLen) (hbytes : (F.length + L.length) * bytes ≤ 140737488355328) (hbase : base ≤ w.heap.size)
    (h : ∀ v' w', RecsOwn k El C base e w' v' (F ++ L) → w.grownBy w' v.ownBlock → wpList P ops Q rest (a.put o.dst v') w') : wpList P ops Q (o :: rest) a w := by
  obtain ⟨cs0, o1, o2⟩ := hown
  obtain ⟨ad, cap, cs, rfl, h1, h2, h3, h4⟩ := hl
  have fin : ∀ v' w', w'.ownsRow base e k v' (F.length + L.length) (cs0 ++ cs) → w.grownBy w' v.ownBlock → RecsOwn k El C base e w' v' (F ++ L) := fun v' w' k2 k3 => RecsOwn.more R hC hT rfl o1 o2 h4 k2 k3
  by_cases hp : 0 < L.length
  · obtain ⟨b, off, rfl, hc⟩ := h3 hp
    refine wpList_append_own w hgd s x t ho base e i z k bytes ht hi hz hsize hby hzs R.pos v F.length cs0 hs o1 ⟨b, off, none⟩ L.length cap cs hx (by rw [h4.1]) (fun j u hu => ?_) (h4.one R) h63 hbytes hbase fun v' w' k2 k3 _ => h v' w' (fin v' w' k2 k3) k3
    rw [Go.WideShapes.add_plain]
    exact hc j u hu
  · have hl0 : L = [] := List.eq_nil_of_length_eq_zero (by omega)
    subst hl0
    obtain rfl : cs = [] := List.eq_nil_of_length_eq_zero (by simpa using h4.1)
    cases ad with
    | none =>
      refine wpList_plain hgd fun K hK => ?_
      have hrun := zAW (P := P) (w := w) base t o.type e i k ht hi v F.length cap cs0 o1
      unfold Oper.wp
      simp [execOp, ho, resolve, invoke, builtin, hs, hx, hrun, Result.andThen]
      exact hK _ _ (h v w (fin v w (by simpa using o1) (World.grownBy.refl _ _)) (World.grownBy.refl _ _))
    | some ad =>
      exact wpList_append_own w hgd s x t ho base e i z k bytes ht hi hz hsize hby hzs R.pos v F.length cs0 hs o1 ad 0 cap [] hx (by simp) (fun j u hu => by simp at hu) (fun u hu => by simp at hu) h63 hbytes hbase fun v' w' k2 k3 _ => h v' w' (fin v' w' k2 k3) k3
theorem zCl {P : Program} (R : RecEl k T El) (w : World) {ops : Array Oper} {rest : List Oper} {o : Oper} {a : Act} {Q : Exit → Act → World → Prop} (hgd : o.guard = none) (s x : Operand) (t : TypeId)
    (ho : o.op = .call { callee := .builtin .append, args := #[s, x], argTypes := #[t, t] })
    (C base : Nat) (hC : C ≤ base) (e : TypeId) (hT : ¬ T e) (i : TypeInfo) (z : Value) (bytes : Nat) (ht : P.underlying t = some (.slice e)) (hi : P.info? e = some i) (hz : i.zero = some z)
    (hsize : i.size = k) (hby : i.bytes = bytes) (hzs : z.cells.size = k)
    (v : Value) (F : List α) (hs : a.eval s = v) (hown : RecsOwn k El C base e w v F)
    (ca : Array Value) (y : α) (hy : El C w ca.toList y) (hx : a.eval x = .slice (some ⟨w.heap.size, 0, none⟩) 1 1)
    (h63 : F.length + 1 ≤ maxLen) (hbytes : (F.length + 1) * bytes ≤ 140737488355328) (hbase : base ≤ w.heap.size)
    (h : ∀ v' w', RecsOwn k El C base e w' v' (F ++ [y]) → (w.alloc (.cells ca e)).grownBy w' v.ownBlock → wpList P ops Q rest (a.put o.dst v') w') : wpList P ops Q (o :: rest) a (w.alloc (.cells ca e)) := by
  have hb : Below w.heap.size w (w.alloc (.cells ca e)) := (Below.refl _ _).alloc (Nat.le_refl _) _
  have hh := heap_alloc_new w (.cells ca e)
  refine zAG R _ hgd s x t ho C base hC e hT i z bytes ht hi hz hsize hby hzs v F hs (hown.mono R hb) (.slice (some ⟨w.heap.size, 0, none⟩) 1 1) [y] hx ?_ h63 hbytes (by rw [World.size_alloc]; omega) h
  refine ⟨_, 1, ca.toList, rfl, by simp, by decide, fun _ => ⟨w.heap.size, 0, rfl, fun j u hu => ?_⟩, RecsEl.single R (R.mono hy hb)⟩
  rw [Nat.zero_add]
  exact zAa hh (by simpa using hu)
end
end

section
open Go.RowKit Go.Extern.Stop Go.Stop Go.Extern
def pktC (p : Pkt) (D : Value) : Array Value :=
  #[.int .i64 p.kind, .int .i64 p.session, .int .i64 p.layer, .int .i64 p.tick, .bool p.burst, .int .i64 p.sync, .int .i64 p.many, .int .i64 p.place, .int .i64 p.block, .int .i64 p.esi, D,
    .int .i64 p.size, .int .i64 p.symbol, .int .i64 p.blocks, .int .i64 p.long, .int .i64 p.short, .int .i64 p.layers, .int .i64 p.esis, .int .i64 p.base, .int .i64 p.length]
def pktV (p : Pkt) (D : Value) : Value := .agg (pktC p D)
structure FitsP (p : Pkt) : Prop where
  kind : I64 p.kind
  session : I64 p.session
  layer : I64 p.layer
  tick : I64 p.tick
  sync : I64 p.sync
  many : I64 p.many
  place : I64 p.place
  block : I64 p.block
  esi : I64 p.esi
  size : I64 p.size
  symbol : I64 p.symbol
  blocks : I64 p.blocks
  long : I64 p.long
  short : I64 p.short
  layers : I64 p.layers
  esis : I64 p.esis
  base : I64 p.base
  length : I64 p.length
  octs : Octets p.data
def PktBox (W : World) (g : Nat) (p : Pkt) (D : Value) : Prop := W.heap[g]? = some (.cells (pktC p D) 63 (0, 0))
theorem PktBox.lt {W : World} {g : Nat} {p : Pkt} {D : Value} (h : PktBox W g p D) : g < W.heap.size := (Array.getElem?_eq_some_iff.1 h).1
theorem PktBox.mono {W W' : World} {g : Nat} {p : Pkt} {D : Value} (h : PktBox W g p D) (hb : Below W.heap.size W W') : PktBox W' g p D := (hb.block g h.lt).trans h
structure PktCells (W : World) (g : Nat) (p : Pkt) (D : Value) : Prop where
  c0 : W.cell? ⟨g, 0, none⟩ = some (.int .i64 p.kind)
  c1 : W.cell? ⟨g, 1, none⟩ = some (.int .i64 p.session)
  c2 : W.cell? ⟨g, 2, none⟩ = some (.int .i64 p.layer)
  c3 : W.cell? ⟨g, 3, none⟩ = some (.int .i64 p.tick)
  c4 : W.cell? ⟨g, 4, none⟩ = some (.bool p.burst)
  c5 : W.cell? ⟨g, 5, none⟩ = some (.int .i64 p.sync)
  c6 : W.cell? ⟨g, 6, none⟩ = some (.int .i64 p.many)
  c7 : W.cell? ⟨g, 7, none⟩ = some (.int .i64 p.place)
  c8 : W.cell? ⟨g, 8, none⟩ = some (.int .i64 p.block)
  c9 : W.cell? ⟨g, 9, none⟩ = some (.int .i64 p.esi)
  c10 : W.cell? ⟨g, 10, none⟩ = some D
  c11 : W.cell? ⟨g, 11, none⟩ = some (.int .i64 p.size)
  c12 : W.cell? ⟨g, 12, none⟩ = some (.int .i64 p.symbol)
  c13 : W.cell? ⟨g, 13, none⟩ = some (.int .i64 p.blocks)
  c14 : W.cell? ⟨g, 14, none⟩ = some (.int .i64 p.long)
  c15 : W.cell? ⟨g, 15, none⟩ = some (.int .i64 p.short)
  c16 : W.cell? ⟨g, 16, none⟩ = some (.int .i64 p.layers)
  c17 : W.cell? ⟨g, 17, none⟩ = some (.int .i64 p.esis)
  c18 : W.cell? ⟨g, 18, none⟩ = some (.int .i64 p.base)
  c19 : W.cell? ⟨g, 19, none⟩ = some (.int .i64 p.length)
theorem PktBox.cells {W : World} {g : Nat} {p : Pkt} {D : Value} (h : PktBox W g p D) : PktCells W g p D :=
  ⟨zAa h rfl, zAa h rfl, zAa h rfl, zAa h rfl, zAa h rfl, zAa h rfl, zAa h rfl, zAa h rfl, zAa h rfl, zAa h rfl, zAa h rfl, zAa h rfl, zAa h rfl, zAa h rfl, zAa h rfl, zAa h rfl, zAa h rfl, zAa h rfl, zAa h rfl, zAa h rfl⟩
theorem zAz (w : World) (p : Pkt) (D : Value) : ∃ W, W = w.alloc (.cells (pktC p D) 63) ∧ Below w.heap.size w W ∧ PktBox W w.heap.size p D :=
  ⟨_, rfl, (Below.refl _ _).alloc (Nat.le_refl _) _, heap_alloc_new w _⟩
end

section
open Go.RowKit Go.Extern.Stop Go.Stop Go.Extern
abbrev Num4 := Int × Int × Int × Int
def FitN (x : Num4) : Prop := x.2.2.1 ≤ x.1 ∧ x.1 ≤ x.2.2.2
instance (x : Num4) : Decidable (FitN x) := by unfold FitN; infer_instance
def FitL (L : List Num4) : Prop := ∀ x ∈ L, FitN x
instance (L : List Num4) : Decidable (FitL L) := by unfold FitL; infer_instance
end

section
open Go.RowKit Go.Extern.Stop Go.Stop Go.Extern
section
variable {P : Program} {ops : Array Oper} {rest : List Oper} {o : Oper} {a : Act} {Q : Exit → Act → World → Prop}
end
section
variable {P : Program} {ops : Array Oper} {rest : List Oper} {o : Oper} {a : Act} {w : World} {Q : Exit → Act → World → Prop}
end
theorem zAk {P : Program} {ops : Array Oper} {rest : List Oper} {o : Oper} {a : Act} {w : World} {Q : Exit → Act → World → Prop} (hg : o.guard = none) (t : TypeId) (parts : Array (Nat × Operand)) (ho : o.op = .build t parts) (cells : Array Value)
    (hb : P.built t (parts.map fun (i, x) => (i, a.eval x)).toList = some cells) (h : wpList P ops Q rest (a.put o.dst (.agg cells)) w) : wpList P ops Q (o :: rest) a w :=
  wpList_build hg t parts ho (by rw [hb]; rfl) (by rw [hb]; exact h)
end

section
def crcP : Nat := 2197175160
def crcS (n : Nat) (b : Bool) : Nat := if (n.testBit 0) = b then n / 2 else (n / 2) ^^^ crcP
def crcR (n : Nat) (bs : List Bool) : Nat := bs.foldl crcS n
theorem zDi (n : Nat) (b : Bool) : crcS n b = (n / 2) ^^^ (if n.testBit 0 ^^ b then crcP else 0) := by
  unfold crcS
  cases n.testBit 0 <;> cases b <;> simp
theorem zMK (n : Nat) (b : Bool) (hn : n < 4294967296) : crcS n b < 4294967296 := by
  have h1 : n / 2 < 2 ^ 32 := by omega
  have h2 : (n / 2) ^^^ crcP < 2 ^ 32 := Nat.xor_lt_two_pow h1 (by decide)
  unfold crcS
  split <;> omega
theorem zJt (bs : List Bool) : ∀ n, n < 4294967296 → crcR n bs < 4294967296 := by
  induction bs with
  | nil => intro n hn; exact hn
  | cons b bs ih => intro n hn; exact ih _ (zMK n b hn)
theorem zBH (n : Nat) (us bs : List Bool) : crcR n (us ++ bs) = crcR (crcR n us) bs := by
  simp [crcR, List.foldl_append]
theorem zHG (a b : Bool) : (if (a ^^ b) then crcP else 0) = (if a then crcP else 0) ^^^ (if b then crcP else 0) := by
  cases a <;> cases b <;> simp
theorem zKt (m n : Nat) (a b : Bool) : crcS (m ^^^ n) (a ^^ b) = crcS m a ^^^ crcS n b := by
  have h : (m ^^^ n) / 2 = m / 2 ^^^ n / 2 := by
    simpa [Nat.shiftRight_eq_div_pow] using Nat.shiftRight_xor_distrib (a := m) (b := n) (i := 1)
  have hb : ((m ^^^ n).testBit 0 ^^ (a ^^ b)) = ((m.testBit 0 ^^ a) ^^ (n.testBit 0 ^^ b)) := by
    rw [Nat.testBit_xor]
    cases m.testBit 0 <;> cases n.testBit 0 <;> cases a <;> cases b <;> rfl
  rw [zDi, zDi, zDi, h, hb, zHG]
  generalize (if (m.testBit 0 ^^ a) = true then crcP else 0) = x
  generalize (if (n.testBit 0 ^^ b) = true then crcP else 0) = y
  rw [Nat.xor_assoc, Nat.xor_assoc, ← Nat.xor_assoc (n / 2) x y, Nat.xor_comm (n / 2) x, Nat.xor_assoc x (n / 2) y]
def bitsN : List Bool → Nat
  | [] => 0
  | b :: bs => b.toNat + 2 * bitsN bs
theorem zB3 : ∀ (bs : List Bool) (i : Nat), (bitsN bs).testBit i = bs.getD i false
  | [], i => by simp [bitsN]
  | b :: bs, 0 => by
    unfold bitsN
    rw [Nat.testBit_zero]
    cases b <;> simp <;> omega
  | b :: bs, i + 1 => by
    unfold bitsN
    rw [Nat.testBit_succ, show (b.toNat + 2 * bitsN bs) / 2 = bitsN bs by have := b.toNat_lt; omega, zB3 bs i]
    rfl
theorem zFA : ∀ (bs : List Bool) (n : Nat), crcR n bs = crcR (n ^^^ bitsN bs) (List.replicate bs.length false)
  | [], n => by simp [bitsN]
  | b :: bs, n => by
    have h1 : bitsN (b :: bs) = b.toNat ^^^ (2 * bitsN bs) := by
      show b.toNat + 2 * bitsN bs = _
      apply Nat.eq_of_testBit_eq
      intro i
      rw [Nat.testBit_xor]
      cases i with
      | zero => rw [Nat.testBit_zero, Nat.testBit_zero, Nat.testBit_zero]; cases b <;> simp <;> omega
      | succ i =>
        rw [Nat.testBit_succ, Nat.testBit_succ, Nat.testBit_succ, show (b.toNat + 2 * bitsN bs) / 2 = bitsN bs by have := b.toNat_lt; omega, show b.toNat / 2 = 0 by have := b.toNat_lt; omega, Nat.mul_div_cancel_left _ (by decide)]
        simp
    have h2 : crcS (n ^^^ bitsN (b :: bs)) false = crcS n b ^^^ bitsN bs := by
      rw [h1, ← Nat.xor_assoc, show (false : Bool) = (false ^^ false) from rfl, zKt]
      have h3 : crcS (2 * bitsN bs) false = bitsN bs := by
        unfold crcS
        rw [if_pos (by rw [Nat.testBit_zero]; simp)]
        omega
      have h4 : crcS (n ^^^ b.toNat) false = crcS n b := by
        rw [zDi, zDi, Nat.testBit_xor]
        have h5 : (n ^^^ b.toNat) / 2 = n / 2 := by
          have h6 : (n ^^^ b.toNat) / 2 = n / 2 ^^^ b.toNat / 2 := by
            simpa [Nat.shiftRight_eq_div_pow] using Nat.shiftRight_xor_distrib (a := n) (b := b.toNat) (i := 1)
          rw [h6, show b.toNat / 2 = 0 by have := b.toNat_lt; omega, Nat.xor_zero]
        rw [h5]
        cases b <;> simp
      rw [h3, h4]
    rw [List.length_cons, List.replicate_succ]
    show crcR (crcS n b) bs = crcR (crcS (n ^^^ bitsN (b :: bs)) false) (List.replicate bs.length false)
    rw [h2]
    exact zFA bs (crcS n b)
def octBits (y : Nat) : List Bool := (List.range 8).map (fun i => y.testBit i)
def crcBits (l : List Nat) : List Bool := l.flatMap octBits
theorem zDv (y : Nat) : (octBits y).length = 8 := by simp [octBits]
theorem zD5 (a b : List Nat) : crcBits (a ++ b) = crcBits a ++ crcBits b := by simp [crcBits]
def crcO (n : Nat) (l : List Nat) : Nat := crcR n (crcBits l)
def crcSum (l : List Nat) : Nat := 4294967295 - crcO 4294967295 l
theorem zJu (l : List Nat) (n : Nat) (h : n < 4294967296) : crcO n l < 4294967296 := zJt _ _ h
theorem zC8 (n : Nat) (a b : List Nat) : crcO n (a ++ b) = crcO (crcO n a) b := by rw [crcO, zD5, zBH]; rfl
theorem zJG (n y : Nat) (l : List Nat) : crcO n (y :: l) = crcO (crcR n (octBits y)) l := by
  show crcR n (crcBits (y :: l)) = _
  rw [crcBits, List.flatMap_cons, zBH]; rfl
theorem zIp (l : List Nat) : crcSum l < 4294967296 := by unfold crcSum; omega
theorem zLK {n : Nat} (h : n < 4294967296) : n ^^^ 4294967295 = 4294967295 - n := by
  have h1 : n ^^^ 4294967295 < 2 ^ 32 := Nat.xor_lt_two_pow (by omega) (by decide)
  have h2 : BitVec.ofNat 32 n ^^^ BitVec.allOnes 32 = ~~~ (BitVec.ofNat 32 n) := by rw [BitVec.xor_allOnes]
  have h3 := congrArg BitVec.toNat h2
  rw [BitVec.toNat_xor, BitVec.toNat_not, BitVec.toNat_ofNat, BitVec.toNat_allOnes, Nat.mod_eq_of_lt (by omega)] at h3
  simpa using h3
def le4 (n : Nat) : List Nat := [n % 256, n / 256 % 256, n / 65536 % 256, n / 16777216 % 256]
theorem zJn {y : Nat} (h : y < 256) : bitsN (octBits y) = y := by
  apply Nat.eq_of_testBit_eq
  intro i
  rw [zB3]
  unfold octBits
  rcases Nat.lt_or_ge i 8 with hi | hi
  · rw [List.getD_eq_getElem?_getD, List.getElem?_map, List.getElem?_range hi]; rfl
  · rw [List.getD_eq_getElem?_getD, List.getElem?_eq_none (by simp; omega)]
    have : y < 2 ^ i := Nat.lt_of_lt_of_le h (show 2 ^ 8 ≤ 2 ^ i from Nat.pow_le_pow_right (by decide) hi)
    rw [Nat.testBit_lt_two_pow this]; rfl
end

section
open Go.RowKit Go.Extern.Stop Go.Stop Go.Extern
theorem zDP (a b : Nat) (ha : a < 4294967296) (hb : b < 4294967296) : bits .xor .u32 (a : Int) (b : Int) = ((a ^^^ b : Nat) : Int) := by
  have hx : a ^^^ b < 2 ^ 32 := Nat.xor_lt_two_pow (by omega) (by omega)
  have h1 : (BitVec.ofInt 32 (a : Int)).toNat = a := by
    rw [BitVec.ofInt_natCast, BitVec.toNat_ofNat]; exact Nat.mod_eq_of_lt (by omega)
  have h2 : (BitVec.ofInt 32 (b : Int)).toNat = b := by
    rw [BitVec.ofInt_natCast, BitVec.toNat_ofNat]; exact Nat.mod_eq_of_lt (by omega)
  show IntKind.u32.wrap ((BitVec.ofInt 32 (a : Int) ^^^ BitVec.ofInt 32 (b : Int)).toNat : Int) = _
  rw [BitVec.toNat_xor, h1, h2, IntKind.wrap_u32]
  omega
theorem zLg (l : List Nat) (n : Nat) (j : Nat) (h : j < l.length) : crcO n (l.take (j + 1)) = crcR (crcO n (l.take j)) (octBits (l.getD j 0)) := by
  rw [List.take_add_one, List.getElem?_eq_getElem h, zC8, List.getD_eq_getElem?_getD, List.getElem?_eq_getElem h]
  show crcO _ [l[j]] = _
  rw [zJG]; rfl
end

section
open Go.RowKit Go.Extern.Stop Go.Stop Go.Extern
theorem zH2 (n : Nat) : (le4 n).length = 4 := rfl
end

section
open Go.RowKit Go.Extern.Stop Go.Stop Go.Extern
theorem zLt {p : Pkt} (hR : RangedP p) (hF : FormP p) : (bodyP p).length ≤ 81 := (show IsPkt (bodyP p) p from ⟨hR, hF, rfl⟩).len.2
def putP (p : Pkt) : List Nat := bodyP p ++ le4 (crcSum (bodyP p))
end

section
open Go.RowKit Go.Extern.Stop Go.Stop Go.Extern
def tickL (s : Snd) (t : Nat) : List (Nat × List Nat) := (packL19 s t).map fun p => (p.layer.toNat, putP p)
def TByte (t : TypeId) : Prop := t = 5
def PktEl (C : Nat) (w : World) (cs : List Value) (p : Pkt) : Prop := ∃ D, cs = (pktC p D).toList ∧ ElAt byteV 5 C w D p.data
theorem zEX {f : Nat → Value} {w : World} {D : Value} {l : List Nat} (h : ListAt f w D l) : D.oneCell' = true := by
  obtain ⟨_, _, rfl, -⟩ := h
  rfl
theorem pktRec : RecEl 20 TByte PktEl where
  pos := by decide
  len := by rintro C w cs x ⟨D, rfl, -⟩; rfl
  one := by
    rintro C w cs x ⟨D, rfl, h⟩ u hu
    have hD := zEX h.1
    simp only [pktC, List.mem_cons, List.not_mem_nil, or_false] at hu
    rcases hu with rfl | rfl | rfl | rfl | rfl | rfl | rfl | rfl | rfl | rfl | rfl | rfl | rfl | rfl | rfl | rfl | rfl | rfl | rfl | rfl
    all_goals first | rfl | exact hD
  keep := by
    rintro C w w' cs x ⟨D, rfl, h⟩ hs
    exact ⟨D, rfl, h.keep fun b hb hk => hs b hb (hk.imp id fun ⟨cur, h⟩ => ⟨_, cur, rfl, h⟩)⟩
def DgEl (C : Nat) (w : World) (cs : List Value) (x : Nat × List Nat) : Prop := ∃ D, cs = [.int .i64 (x.1 : Int), D] ∧ ElAt byteV 5 C w D x.2
def DgElN (C : Nat) (w : World) (cs : List Value) (x : Nat × List Nat) : Prop := ∃ D, cs = [.int .i64 (x.1 : Int), D] ∧ ElAt byteV 5 C w D x.2 ∧ ∀ b, D.ownBlock = some b → C ≤ b
theorem zA4 : RecEl 2 TByte DgElN where
  pos := by decide
  len := by rintro C w cs x ⟨D, rfl, -⟩; rfl
  one := by
    rintro C w cs x ⟨D, rfl, h, -⟩ u hu
    have hD := zEX h.1
    simp only [List.mem_cons, List.not_mem_nil, or_false] at hu
    rcases hu with rfl | rfl
    all_goals first | rfl | exact hD
  keep := by
    rintro C w w' cs x ⟨D, rfl, h, h2⟩ hs
    exact ⟨D, rfl, h.keep fun b hb hk => hs b hb (hk.imp id fun ⟨cur, h⟩ => ⟨_, cur, rfl, h⟩), h2⟩
def DgsNew (B : Nat) (w : World) (v : Value) (L : List (Nat × List Nat)) : Prop := RecsOwn 2 DgElN B B 67 w v L
theorem ListAt.farN {w w' : World} {D : Value} {l : List Nat} {B : Nat} (h : ListAt byteV w D l) (hn : ∀ b, D.ownBlock = some b → B ≤ b) (hs : ∀ x, B ≤ x → x < w.heap.size → w'.heap[x]? = w.heap[x]?) : ListAt byteV w' D l := by
  obtain ⟨a, cap, rfl, h1, h2, h3⟩ := h
  refine ⟨a, cap, rfl, h1, h2, fun hp => ?_⟩
  obtain ⟨b, off, rfl, hc⟩ := h3 hp
  refine ⟨b, off, rfl, fun j hj => ?_⟩
  have hx := hc j hj
  have hb := World.block_lt_of_cell? w _ hx
  rw [World.cell?_of_block (w := w) (a := ⟨b, off + j, none⟩) (hs b (hn b rfl) hb)]
  exact hx
theorem DgsNew.far {B : Nat} {w w' : World} {v : Value} {L : List (Nat × List Nat)} (h : DgsNew B w v L) (hs : ∀ x, B ≤ x → x < w.heap.size → w'.heap[x]? = w.heap[x]?) : DgsNew B w' v L := by
  obtain ⟨cs, h1, h2⟩ := h
  refine ⟨cs, ?_, h2.1, fun j x hj => ?_⟩
  · refine ⟨h1.1, ?_⟩
    rcases h1.2 with h | ⟨g, cap, cur, e, hb, hg, h3⟩
    · exact .inl h
    · exact .inr ⟨g, cap, cur, e, hb, (hs g hb (Array.getElem?_eq_some_iff.1 hg).1).trans hg, h3⟩
  · obtain ⟨D, e, hD, hn⟩ := h2.2 j x hj
    refine ⟨D, e, ⟨hD.1.farN hn hs, fun hp b hb => ?_⟩, hn⟩
    rcases hD.2 hp b hb with h4 | ⟨cur, h4⟩
    · exact .inl h4
    · exact .inr ⟨cur, (hs b (hn b hb) (Array.getElem?_eq_some_iff.1 h4).1).trans h4⟩
theorem DgsNew.at {B : Nat} {w : World} {v : Value} {L : List (Nat × List Nat)} (h : DgsNew B w v L) : RecsAt 2 DgEl B w v L := by
  obtain ⟨a, cap, cs, rfl, h1, h2, h3, h4⟩ := RecsOwn.at h
  refine ⟨a, cap, cs, rfl, h1, h2, h3, h4.1, fun j x hj => ?_⟩
  obtain ⟨D, e, hD, -⟩ := h4.2 j x hj
  exact ⟨D, e, hD⟩
end

section
open Go.RowKit Go.ChangeShapes Go.WideShapes
def pairsData {H : Type} (L : List (Int × Int)) : DataW H := .agg (L.map fun z => .agg [.lit (.int .i64 z.1), .lit (.int .i64 z.2)])
def PairsAt (w : World) (g : Nat) (L : List (Int × Int)) : Prop :=
  ∀ i (hi : i < L.length), w.cell? ⟨g, i * 2, none⟩ = some (.int .i64 (L[i]'hi).1) ∧ w.cell? ⟨g, i * 2 + 1, none⟩ = some (.int .i64 (L[i]'hi).2)
theorem PairsAt.mono {w w' : World} {g : Nat} {L : List (Int × Int)} (h : PairsAt w g L) (hb : Below w.heap.size w w') : PairsAt w' g L := fun i hi =>
  ⟨(hb.cell (p := ⟨g, i * 2, none⟩) (World.block_lt_of_cell? w _ (h i hi).1)).trans (h i hi).1, (hb.cell (p := ⟨g, i * 2 + 1, none⟩) (World.block_lt_of_cell? w _ (h i hi).2)).trans (h i hi).2⟩
theorem zGK {cs : List Value} {k : Nat} {v : Value} (h : (cs.drop k).take 1 = [v]) : cs[k]? = some v := by
  have := congrArg (·[0]?) h
  simpa [List.getElem?_take, List.getElem?_drop] using this
theorem zJd {P : Program} {W : World} {name : String} {L : List (Int × Int)} {rest : List (String × DataW Unit)} {g : Nat} {t e e1 : TypeId} {f0 f1 : Field} {n : Nat}
    (hg : P.globalNamed name = some g) (hty : (P.globals[g]?).map (·.type) = some t) (ht : P.underlying t = some (.array n e)) (he : P.underlying e = some (.struct #[f0, f1]))
    (h0t : f0.type = e1) (h1t : f1.type = e1) (h0o : f0.offset = 0) (h1o : f1.offset = 1)
    (hi : P.underlying e1 = some (.int .i64)) (hce : P.cellsOf e = 2) (hci : P.cellsOf e1 = 1)
    (h : laidMet P ((name, pairsData L) :: rest) W) : PairsAt W g L := by
  obtain ⟨ps, ⟨g', t', cs, fuel, p, q, hg', ht', hvar, hd, _, _⟩, _⟩ := h
  obtain rfl := Option.some.inj (hg.symm.trans hg')
  obtain rfl := Option.some.inj (hty.symm.trans ht')
  obtain ⟨xs, m, -, hx, -, hxn, hall⟩ := DataW.trod_array ht hd
  have hxs : xs.map (·.1) = L.map fun z => (.agg [.lit (.int .i64 z.1), .lit (.int .i64 z.2)] : DataW Unit) := by
    have := congrArg Prod.fst hx
    simpa [pairsData] using this.symm
  have hln : L.length = n := by
    have := congrArg List.length hxs
    simp at this
    omega
  intro i hlt
  have h1 := hall i (by omega)
  rw [hce] at h1
  have hix : i < xs.length := by omega
  rw [List.getElem?_eq_getElem hix] at h1
  have hi1 : (xs[i]).1 = (.agg [.lit (.int .i64 (L[i]'hlt).1), .lit (.int .i64 (L[i]'hlt).2)] : DataW Unit) := by
    have := congrArg (·[i]?) hxs
    simpa [List.getElem?_eq_getElem hix, List.getElem?_eq_getElem hlt] using this
  obtain ⟨y0, y1, m2, e2, hl, g0, g1⟩ := trod_struct2 he h1
  rw [h0t, hci, h0o] at g0
  rw [h1t, hci, h1o] at g1
  obtain ⟨a, ha, rfl, -⟩ := DataW.trod_int hi g0
  obtain ⟨b, hb, rfl, -⟩ := DataW.trod_int hi g1
  rw [e2] at hi1
  simp only [DataW.agg.injEq, List.cons.injEq, DataW.lit.injEq, Lit.int.injEq, true_and, and_true] at hi1
  obtain ⟨rfl, rfl⟩ := hi1
  have c0 := zGK ha
  have c1 := zGK hb
  rw [List.getElem?_take, if_pos (by omega), List.getElem?_drop] at c0 c1
  constructor
  · rw [World.var?_cell hg hvar, ← Array.getElem?_toList]; simpa using c0
  · rw [World.var?_cell hg hvar, ← Array.getElem?_toList]; simpa using c1
end

section
open Go.RowKit Go.Extern.Stop Go.Stop Go.Extern
abbrev DgTab (w : World) : Prop := PairsAt w 2 dgTab
theorem zLi (v : Int) (k : Nat) (hk : k < 7) (h : ∀ j (hj : j < k), (dgTab[j]'(by show j < 7; omega)).1 ≤ v) (hv : v < (dgTab[k]'hk).1) : dgOf v = (dgTab[k]'hk).2 := by
  unfold dgOf
  rcases (by omega : k = 0 ∨ k = 1 ∨ k = 2 ∨ k = 3 ∨ k = 4 ∨ k = 5 ∨ k = 6) with rfl | rfl | rfl | rfl | rfl | rfl | rfl
  · have h1 : v < 10241 := hv
    show _ = (1 : Int); split <;> omega
  · have h0 : 10241 ≤ v := h 0 (by omega)
    have h1 : v < 491582 := hv
    rw [if_neg (by omega), if_pos (by omega)]; rfl
  · have h0 : 491582 ≤ v := h 1 (by omega)
    have h1 : v < 712794 := hv
    rw [if_neg (by omega), if_neg (by omega), if_pos (by omega)]; rfl
  · have h0 : 712794 ≤ v := h 2 (by omega)
    have h1 : v < 831695 := hv
    rw [if_neg (by omega), if_neg (by omega), if_neg (by omega), if_pos (by omega)]; rfl
  · have h0 : 831695 ≤ v := h 3 (by omega)
    have h1 : v < 948446 := hv
    rw [if_neg (by omega), if_neg (by omega), if_neg (by omega), if_neg (by omega), if_pos (by omega)]; rfl
  · have h0 : 948446 ≤ v := h 4 (by omega)
    have h1 : v < 1032189 := hv
    rw [if_neg (by omega), if_neg (by omega), if_neg (by omega), if_neg (by omega), if_neg (by omega), if_pos (by omega)]; rfl
  · have h0 : 1032189 ≤ v := h 5 (by omega)
    rw [if_neg (by omega), if_neg (by omega), if_neg (by omega), if_neg (by omega), if_neg (by omega), if_neg (by omega)]; rfl
theorem zMZ {w : World} (v : Int) (h0 : 0 ≤ v) (h1 : v < 1048576) (hT : DgTab w) :
    Calls Tryz.prog 218 #[.int .i64 v] w fun e w' => e = .returned (.tuple #[.int .i64 (dgOf v), .nilIface]) ∧ w = w' := by
  have HT := lhd hT
  clear hT
  go_enter Tryz.func218, Tryz.ntmps218
  go_wp2
  go_loopw [7] (fun i wr => ∃ k : Nat, k ≤ 7 ∧ i = .int .i64 k ∧ w = wr ∧ ∀ j (hj : j < 7), j < k → (dgTab[j]'hj).1 ≤ v) (fun i _ => 7 - (intOf i).toNat)
  case atStart => exact ⟨0, by omega, rfl, rfl, fun j _ hj => by omega⟩
  case round =>
    obtain ⟨k, hk, rfl, rfl, hj⟩ := hrel
    have hk7 : k < 7 := by
      rcases Nat.lt_or_ge k 7 with h | h
      · exact h
      · have : (1048576 : Int) ≤ v := hj 6 (by omega) (by omega)
        omega
    obtain ⟨hc0, hc1⟩ := HT.out k hk7
    have HJ := lhd hj
    have HH := lhd (fun hv => zLi v k hk7 (fun j hjk => hj j (by omega) hjk) hv)
    clear hj
    obtain ⟨B, hB⟩ : ∃ B, (dgTab[k]'hk7).1 = B := ⟨_, rfl⟩
    obtain ⟨D, hD⟩ : ∃ D, (dgTab[k]'hk7).2 = D := ⟨_, rfl⟩
    rw [hB] at hc0
    rw [hD] at hc1
    have HBB := lhd hB
    have HDD := lhd hD
    clear hB hD
    by_cases hv : v < B
    · have hd : dgOf v = D := (HH.out (by rw [HBB.out]; exact hv)).trans HDD.out
      go_wp2
      go_ret2
      exact ⟨by rw [hd]; rfl, rfl⟩
    · have HN := lhd hv
      go_wp2
      go_roundw
      case rel => exact ⟨k + 1, by omega, by go_num, trivial, fun j hj7 hj => by
        by_cases e : j = k
        · subst e; rw [HBB.out]; have := HN.out; omega
        · exact HJ.out j hj7 (by omega)⟩
      case measure => simp [intOf]; omega
end

section
open Go.Shelf
def Tryz.lays29_ren : Go.Shelf.Ren := ⟨fun | 29 => 212 | n => n, fun | 22 => 258 | 3 => 3 | 4 => 4 | 25 => 58 | 54 => 311 | 0 => 0 | 5 => 5 | n => n, fun | 1 => 1 | n => n⟩
theorem Tryz.lays29 : Go.Proofs.Lays7.n29 Tryz.prog Tryz.lays29_ren := {
  mixed := by kernel_rfl
  f29 := Tryz.func212.trans (congrArg some (by kernel_rfl))
  t0 := Tryz.underlying0
  a0 := Tryz.isAgg0
  z0 := Tryz.sizeOf0
  v0 := Tryz.zeroValue0
  i0 := by kernel_rfl
  t3 := Tryz.underlying3
  a3 := Tryz.isAgg3
  z3 := Tryz.sizeOf3
  v3 := Tryz.zeroValue3
  i3 := by kernel_rfl
  t4 := Tryz.underlying4
  a4 := Tryz.isAgg4
  z4 := Tryz.sizeOf4
  v4 := Tryz.zeroValue4
  i4 := by kernel_rfl
  t5 := Tryz.underlying5
  a5 := Tryz.isAgg5
  z5 := Tryz.sizeOf5
  v5 := Tryz.zeroValue5
  i5 := by kernel_rfl
  t22 := Tryz.underlying258
  a22 := Tryz.isAgg258
  z22 := Tryz.sizeOf258
  v22 := Tryz.zeroValue258
  i22 := by kernel_rfl
  t25 := Tryz.underlying58
  a25 := Tryz.isAgg58
  z25 := Tryz.sizeOf58
  v25 := Tryz.zeroValue58
  i25 := by kernel_rfl
  t54 := Tryz.underlying311
  a54 := Tryz.isAgg311
  z54 := Tryz.sizeOf311
  g1 := by kernel_rfl }
open Go.RowKit Go.Extern.Stop Go.Stop Go.Extern
def Tab (w : World) : Prop := TabAt 1 Lib.deBruijn64tab w
theorem Tab.mono {w w' : World} (h : Tab w) (hb : Below w.heap.size w w') : Tab w' := by
  intro j hj
  have hx := h j hj
  rw [hb.cell (p := ⟨1, j, none⟩) (World.block_lt_of_cell? w _ hx)]
  exact hx
theorem zGT (x : Nat) (hx : x < 18446744073709551616) (w : World) (hT : Tab w) :
    Calls Tryz.prog 212 #[.int .u64 (x : Int)] w fun e w' => e = .returned (.int .i64 (Lib.ctz 64 x : Nat)) ∧ w = w' := by
  refine (Any7.bits_TrailingZeros64 Tryz.lays29 x hx w fun _ => hT).mono ?_
  rintro e w' ⟨rfl, rfl⟩
  exact ⟨rfl, rfl⟩
end
end Go.Proofs.YtkfimdpcadbcpaaGreatDoor
