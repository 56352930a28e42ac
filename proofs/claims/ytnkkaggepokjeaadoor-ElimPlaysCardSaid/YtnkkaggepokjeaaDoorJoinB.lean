import Derived.Test.YtnkkaggepokjeaaDoorJoinA
import Derived.Test.YtnkkaggepokjeaaDoorLaw05F
import Derived.Test.YtnkkaggepokjeaaDoorMat
import Derived.Test.YtnkkaggepokjeaaDoorAppend
import Derived.Deep.AppendLies
import Derived.Deep.RegionLaw
import Derived.BigQuiet
import Derived.Deep.RegionWith
import Derived.IntWalk

section
/- What symbols make true, no program: their equations, and what is known by them. -/
namespace Go.Proofs.YtnkkaggepokjeaaDoor

/-- A row's equation. -/
def lqV (S : List (List Nat)) (size x : Nat) : Vec := longV [x] (symOf S size x) S.length
/-- The equation of one column alone. -/
def eV (S : List (List Nat)) (c : Nat) : Vec := longV [2 ^ c] (S.getD c []) S.length
/-- What a row's columns say, made true. -/
def tV (S : List (List Nat)) (v : Vec) : Vec := comb ((List.range S.length).map (eV S)) id v S.length
theorem tV_true (S : List (List Nat)) : TrueBy S.length (tV S) := ⟨comb_zero _ _ _, fun x y => comb_add _ _ x y _⟩

theorem xorW_one (a b : Nat) : xorW [a] [b] = [a ^^^ b] := rfl
theorem xor_pow {x m : Nat} (h : x.testBit m = true) : x % 2 ^ m ^^^ 2 ^ m = x % 2 ^ (m + 1) := by
  apply Nat.eq_of_testBit_eq
  intro j
  rw [Nat.testBit_xor, Nat.testBit_mod_two_pow, Nat.testBit_mod_two_pow, Nat.testBit_two_pow]
  by_cases e : m = j
  · subst e; simp [h]
  · by_cases hl : j < m
    · simp [e, hl, show j < m + 1 by omega]
    · simp [e, hl, show ¬ j < m + 1 by omega]
theorem mod_pow_out {x m : Nat} (h : x.testBit m = false) : x % 2 ^ (m + 1) = x % 2 ^ m := by
  apply Nat.eq_of_testBit_eq
  intro j
  rw [Nat.testBit_mod_two_pow, Nat.testBit_mod_two_pow]
  by_cases e : m = j
  · subst e; simp [h]
  · by_cases hl : j < m
    · simp [hl, show j < m + 1 by omega]
    · simp [hl, show ¬ j < m + 1 by omega]
theorem bitW_word (x : Nat) {c : Nat} (hc : c < 64) : bitW [x] c = x.testBit c := by
  unfold bitW
  rw [show c / 64 = 0 by omega, show c % 64 = c by omega]; rfl

section
variable {S : List (List Nat)} {size : Nat} (hS : SizeOk S size) (hm : S.length ≤ 12)
include hS hm

theorem comb_to {x : Nat} : ∀ m, m ≤ S.length → comb ((List.range S.length).map (eV S)) id (bitW [x]) m = longV [x % 2 ^ m] (sumS size (pickTo [x] S m)) S.length
  | 0, _ => by
    rw [comb, pickTo_zero, sumS_nil]
    symm
    refine longV_zero ?_ fun j => ?_
    · rw [Nat.pow_zero, Nat.mod_one]
      exact zero_of_words (fun j hj => by have : j = 0 := (by simpa using hj); subst this; rfl)
    · simp [List.getD_eq_getElem?_getD, List.getElem?_replicate]
      split <;> simp
  | m + 1, h => by
    have ih := comb_to (x := x) m (by omega)
    have hlen : (S.getD m []).length = size := (hS _ (getD_mem_row (by omega))).1
    have hbit := bitW_word x (c := m) (by omega)
    cases hb : x.testBit m with
    | true =>
      have hb' : bitW [x] m = true := by rw [hbit, hb]
      rw [comb, if_pos (by exact hb'), ih, pickTo_in hb', sumS_snoc hlen]
      have e : ((List.range S.length).map (eV S)).getD m vzero = eV S m := by simp [List.getD_eq_getElem?_getD, show m < S.length by omega]
      rw [e]
      unfold eV
      rw [longV_add (r1 := [x % 2 ^ m]) (r2 := [2 ^ m]) rfl (by rw [sumS_length, hlen]), xorW_one, xor_pow hb]
    | false =>
      have hb' : bitW [x] m = false := by rw [hbit, hb]
      rw [comb, if_neg (by show ¬ bitW [x] m = true; rw [hb']; decide), ih, pickTo_out hb', mod_pow_out hb]

omit hS hm in
theorem pick_all {x : Nat} (hx : x < 2 ^ S.length) : ∀ k, S.length + k ≤ 64 → pickTo [x] S (S.length + k) = pickTo [x] S S.length
  | 0, _ => rfl
  | k + 1, h => by
    rw [show S.length + (k + 1) = S.length + k + 1 by omega, pickTo_out, pick_all hx k (by omega)]
    rw [bitW_word x (by omega)]
    exact Nat.testBit_lt_two_pow (Nat.lt_of_lt_of_le hx (Nat.pow_le_pow_right (by decide) (by omega)))

theorem lq_comb {x : Nat} (hx : x < 2 ^ S.length) : lqV S size x = tV S (bitW [x]) := by
  unfold lqV tV symOf
  rw [comb_to hS hm S.length (Nat.le_refl _), Nat.mod_eq_of_lt hx]
  have e := pick_all hx (64 - S.length) (by omega)
  rw [show S.length + (64 - S.length) = 64 by omega] at e
  rw [← e]
  rfl

omit hS hm in
theorem bit_out {x c : Nat} (hx : x < 2 ^ S.length) (hc : S.length ≤ c) : bitW [x] c = false := by
  by_cases h : c < 64
  · rw [bitW_word x h]
    exact Nat.testBit_lt_two_pow (Nat.lt_of_lt_of_le hx (Nat.pow_le_pow_right (by decide) hc))
  · exact bitW_out _ _ (by simp; omega)
omit hS hm in
theorem symOf_length (x : Nat) : (symOf S size x).length = size := sumS_length _ _
omit hm in
theorem symOf_octets {x : Nat} (hx : x < 2 ^ S.length) : Octets (symOf S size x) := sumS_octets (fun r hr => by
  obtain ⟨c, hc, rfl⟩ := List.mem_map.1 hr
  exact (hS _ (getD_mem_row (cols_lt hx c hc))).2) _
theorem lq_ok {x : Nat} (hp : 1 ≤ S.length) (hx : x < 2 ^ S.length) : EqOk S.length size ([x], symOf S size x) := by
  have hx64 : x < 18446744073709551616 := by
    have := Nat.pow_le_pow_right (n := 2) (by decide) (show S.length ≤ 64 by omega)
    omega
  exact ⟨by unfold kOf; simp; omega, fun z hz => by simp at hz; omega, fun c hc => bit_out hx hc, symOf_length x, symOf_octets hS hx⟩
omit hS hm in
theorem lq_proj {x : Nat} (hx : x < 2 ^ S.length) : proj S.length (lqV S size x) = bitW [x] := longV_proj fun _ hc => bit_out hx hc
theorem lq_true {x : Nat} (hx : x < 2 ^ S.length) : lqV S size x = tV S (proj S.length (lqV S size x)) := by rw [lq_proj hx]; exact lq_comb hS hm hx

/-- Equations of rows. -/
def kQ (S : List (List Nat)) (size : Nat) (Q : List Nat) : List Vec := Q.map (lqV S size)
def rowsQ (Q : List Nat) : List (List Nat) := Q.map fun x => [x]
omit hS hm in
theorem kQ_snoc (Q : List Nat) (x : Nat) : kQ S size (Q ++ [x]) = kQ S size Q ++ [lqV S size x] := by simp [kQ]
omit hS hm in
theorem kQ_proj {Q : List Nat} (hQ : ∀ q ∈ Q, q < 2 ^ S.length) : (kQ S size Q).map (proj S.length) = vecs (rowsQ Q) := by
  unfold kQ vecs rowsQ
  rw [List.map_map, List.map_map]
  exact List.map_congr_left fun q hq => lq_proj (hQ q hq)
theorem kQ_true {Q : List Nat} (hQ : ∀ q ∈ Q, q < 2 ^ S.length) : ∀ l ∈ kQ S size Q, l = tV S (proj S.length l) := fun l hl => by
  obtain ⟨q, hq, rfl⟩ := List.mem_map.1 hl
  exact lq_true hS hm (hQ q hq)
open Classical in
theorem kQ_kind {Q : List Nat} (hQ : ∀ q ∈ Q, q < 2 ^ S.length) {x : Nat} (hx : x < 2 ^ S.length) : kindV S.length (kQ S size Q) (lqV S size x) = if Sp (vecs (rowsQ Q)) (bitW [x]) then 2 else 1 := by
  rw [(tV_true S).kind (kQ_true hS hm hQ) (lq_true hS hm hx), kQ_proj hQ, lq_proj hx]
theorem kQ_kind_cases {Q : List Nat} (hQ : ∀ q ∈ Q, q < 2 ^ S.length) {x : Nat} (hx : x < 2 ^ S.length) : kindV S.length (kQ S size Q) (lqV S size x) = 1 ∨ kindV S.length (kQ S size Q) (lqV S size x) = 2 := by
  rw [kQ_kind hS hm hQ hx]
  split
  · exact .inr rfl
  · exact .inl rfl
theorem kQ_add {Q : List Nat} (hQ : ∀ q ∈ Q, q < 2 ^ S.length) {x : Nat} (hx : x < 2 ^ S.length) : addV S.length (kQ S size Q) (lqV S size x) = kQ S size (Q ++ [x]) := by
  unfold addV
  rw [if_neg (by rcases kQ_kind_cases hS hm hQ hx with h | h <;> rw [h] <;> decide), kQ_snoc]
noncomputable def rkQ (Q : List Nat) : Nat := rk (vecs (rowsQ Q))
theorem kQ_rank {Q : List Nat} (hQ : ∀ q ∈ Q, q < 2 ^ S.length) {x : Nat} (hx : x < 2 ^ S.length) : addR S.length (kQ S size Q) (lqV S size x) (rkQ Q) = rkQ (Q ++ [x]) := by
  unfold addR rkQ
  have e : vecs (rowsQ (Q ++ [x])) = vecs (rowsQ Q) ++ [bitW [x]] := by simp [vecs, rowsQ]
  rw [kQ_kind hS hm hQ hx, e]
  by_cases h : Sp (vecs (rowsQ Q)) (bitW [x])
  · rw [if_pos h, rk_in h]; rfl
  · rw [if_neg h, rk_out h]; rfl
/-- What is known is the symbol itself. -/
theorem kQ_val {Q : List Nat} (hQ : ∀ q ∈ Q, q < 2 ^ S.length) {c : Nat} (hc : c < S.length) {v : Vec} (hv : ValV S.length (kQ S size Q) c v) : symV S.length size v = S.getD c [] := by
  have h1 := (tV_true S).span (kQ_true hS hm hQ) hv.1
  rw [hv.2] at h1
  have e : unitV c = bitW [2 ^ c] := by
    funext d
    by_cases hd : d < 64
    · rw [bitW_word _ hd, Nat.testBit_two_pow]
      unfold unitV
      by_cases e : d = c
      · subst e; simp
      · simp [e, show ¬ c = d from fun h => e h.symm]
    · rw [bitW_out _ _ (by simp; omega)]
      simp [unitV]; omega
  have hx : 2 ^ c < 2 ^ S.length := Nat.pow_lt_pow_right (by decide) hc
  rw [e, ← lq_comb hS hm hx] at h1
  have hcol : symOf S size (2 ^ c) = S.getD c [] := by
    unfold symOf
    have hcc : colsOf [2 ^ c] = [c] := by
      apply List.ext_getElem?
      intro i
      have hmem : ∀ d, d ∈ colsOf [2 ^ c] ↔ d = c := fun d => by
        rw [mem_colsOf, ← e]; unfold unitV; exact decide_eq_true_iff
      have hnd : (colsOf [2 ^ c]).Nodup := colsTo_nodup _ _
      have hp : (colsOf [2 ^ c]).Perm [c] := (List.perm_ext_iff_of_nodup hnd (by simp)).2 fun d => by rw [hmem d]; simp
      rw [List.perm_singleton.1 hp]
    rw [hcc]
    exact sumS_one (hS _ (getD_mem_row hc)).1
  rw [h1]
  unfold lqV
  have := symV_long (row := [2 ^ c]) (n := S.length) (symOf_octets hS hx)
  rw [symOf_length] at this
  rw [this, hcol]
end
end Go.Proofs.YtnkkaggepokjeaaDoor
end

section
/- The fifth layer's laws: what every law over true symbols keeps; an equation of theirs is added. -/
namespace Go.Proofs.YtnkkaggepokjeaaDoor
open Go.RowKit Go.Extern.Stop Go.Stop Go.Extern

/-- The law's box, its symbols, its rows. -/
structure LawW (w wr : World) (size : Nat) (u1 u2 : Value) (S : List (List Nat)) (Q : List Nat) : Prop where
  bel : Below w.heap.size w wr
  box : wr.heap[w.heap.size]? = some (.cells #[.int .i64 (size : Int), u1, u2] 54 (0, 0))
  syms : SymsAt wr w.heap.size u1 S
  rows : wr.ownsRow w.heap.size 47 1 u2 Q.length (Q.map wordV)

section
variable {w wr w' : World} {size : Nat} {u1 u2 : Value} {S : List (List Nat)} {Q : List Nat}
theorem LawW.lt (h : LawW w wr size u1 u2 S Q) : w.heap.size < wr.heap.size := (Array.getElem?_eq_some_iff.1 h.box).1
theorem LawW.mono (h : LawW w wr size u1 u2 S Q) (hb : Below wr.heap.size wr w') : LawW w w' size u1 u2 S Q :=
  ⟨h.bel.trans (hb.mono (Nat.le_of_lt h.lt)), (hb.block _ h.lt).trans h.box, h.syms.mono hb, owns_kept h.rows hb⟩
theorem LawW.touch {b n sz r kb : Nat} {K : List Vec} {cl : Bool} (h : LawW w wr size u1 u2 S Q) (hs : Sys wr b n sz K r cl kb) (ht : Touch b kb wr w') (hb : w.heap.size < b) (hk : w.heap.size < kb) : LawW w w' size u1 u2 S Q := by
  obtain ⟨vs, s1, s2⟩ := h.syms
  exact ⟨h.bel.trans (ht.below (Nat.le_of_lt hb) (Nat.le_of_lt hk) (Nat.le_of_lt h.lt)), (ht.block _ h.lt (by omega) (by omega)).trans h.box, ⟨vs, hs.own ht (by decide) s1, fun i hi => hs.own ht (by decide) (s2 i hi)⟩, hs.own ht (by decide) h.rows⟩
theorem LawW.cells (h : LawW w wr size u1 u2 S Q) : wr.cell? ⟨w.heap.size, 0, none⟩ = some (.int .i64 (size : Int)) ∧ wr.cell? ⟨w.heap.size, 1, none⟩ = some u1 ∧ wr.cell? ⟨w.heap.size, 2, none⟩ = some u2 :=
  ⟨cell_of_heap h.box rfl, cell_of_heap h.box rfl, cell_of_heap h.box rfl⟩
theorem LawW.row {g c : Nat} (h : LawW w wr size u1 (.slice (some ⟨g, 0, none⟩) Q.length c) S Q) {j : Nat} (hj : j < Q.length) : wr.cell? ⟨g, j, none⟩ = some (.int .u64 ((Q.getD j 0 : Nat) : Int)) := by
  rw [h.rows.cellAt j (by omega)]
  simp [wordV, hj]
theorem LawW.opens (h : LawW w wr size u1 u2 S Q) : (∃ a c, u1 = .slice a S.length c) ∧ (∃ a c, u2 = .slice a Q.length c ∧ (0 < Q.length → ∃ g, a = some ⟨g, 0, none⟩)) := by
  obtain ⟨vs, s1, s2⟩ := h.syms
  obtain ⟨a, c, e, _, _⟩ := own_open s1
  obtain ⟨a2, c2, e2, _, h2⟩ := own_open h.rows
  exact ⟨⟨a, c, e⟩, ⟨a2, c2, e2, h2⟩⟩

/-- Behind fit, its answer laid in the box. -/
theorem LawW.start {x1 x2 x3 : Value} {w0 : World} (hw0 : w0 = w.alloc (.cells #[x1, x2, x3] 54)) (hb : Below w0.heap.size w0 wr) (hs : SymsAt wr w0.heap.size u1 S) (hr : wr.ownsRow w0.heap.size 47 1 u2 Q.length (Q.map wordV)) :
    wr.heap[w.heap.size]? = some (.cells #[x1, x2, x3] 54 (0, 0)) ∧
    LawW w (((wr.setCell ⟨w.heap.size, 0, none⟩ (.int .i64 (size : Int))).setCell ⟨w.heap.size, 1, none⟩ u1).setCell ⟨w.heap.size, 2, none⟩ u2) size u1 u2 S Q := by
  have hz : w0.heap.size = w.heap.size + 1 := by rw [hw0]; exact World.size_alloc _ _
  have h0 : w0.heap[w.heap.size]? = some (.cells #[x1, x2, x3] 54 (0, 0)) := by rw [hw0]; exact heap_alloc_new w _
  have h1 := (hb.block w.heap.size (by omega)).trans h0
  have e1 := heap_setCell_at (j := 0) (u := .int .i64 (size : Int)) h1
  have e2 := heap_setCell_at (j := 1) (u := u1) e1
  have e3 := heap_setCell_at (j := 2) (u := u2) e2
  have hbw : Below w.heap.size w w0 := by rw [hw0]; exact (Below.refl _ _).alloc (Nat.le_refl _) _
  refine ⟨h1, ((((hbw.trans (hb.mono (by omega))).setCell (p := ⟨w.heap.size, 0, none⟩) (Nat.le_refl _) _).setCell (p := ⟨w.heap.size, 1, none⟩) (Nat.le_refl _) _).setCell (p := ⟨w.heap.size, 2, none⟩) (Nat.le_refl _) _), e3,
    ((((hs.base (show w.heap.size ≤ w0.heap.size by omega)).set h1 0 _).set e1 1 _).set e2 2 _), own_set (own_set (own_set (ownsRow_base hr (by omega)) h1 (by decide) 0 _) e1 (by decide) 1 _) e2 (by decide) 2 _⟩
end

/-- What an equation of true symbols is told, and what is known behind it. -/
theorem law_add {wr w' : World} {b kb size : Nat} {S : List (List Nat)} {Q : List Nat} (hS : SizeOk S size) (hm : S.length ≤ 12) (hp : 1 ≤ S.length) (hs : Sys wr b S.length size (kQ S size Q) (rkQ Q) false kb) (hT : Tab wr) (hQ : ∀ q ∈ Q, q < 2 ^ S.length) {x : Nat} (hx : x < 2 ^ S.length)
    (hb : Below wr.heap.size wr w') (v1 v2 : Value) (h1 : ListAt wordV w' v1 [x]) (h2 : ListAt byteV w' v2 (symOf S size x)) :
    Calls Tryd.prog 16 #[sysP b, v1, v2] w' fun e w'' => ∃ k : Nat, e = .returned (.tuple #[.int .i64 (k : Int), .nilIface]) ∧ (k = 1 ∨ k = 2) ∧ k = kindV S.length (kQ S size Q) (lqV S size x) ∧ Touch b kb w' w'' ∧ Sys w'' b S.length size (kQ S size (Q ++ [x])) (rkQ (Q ++ [x])) false kb := by
  refine (sysAdd b S.length size (kQ S size Q) (rkQ Q) kb v1 v2 [x] (symOf S size x) (hs.mono hb) (hT.mono hb) h1 h2 (lq_ok hS hm hp hx)).mono ?_
  rintro e w'' ⟨rfl, ht, h3⟩
  have hk := kQ_kind_cases hS hm hQ hx
  have e3 : decide (kindV S.length (kQ S size Q) (lqV S size x) = 3) = false := decide_eq_false (by omega)
  have h4 : Sys w'' b S.length size (addV S.length (kQ S size Q) (lqV S size x)) (addR S.length (kQ S size Q) (lqV S size x) (rkQ Q)) (decide (kindV S.length (kQ S size Q) (lqV S size x) = 3)) kb := h3
  rw [kQ_add hS hm hQ hx, kQ_rank hS hm hQ hx, e3] at h4
  exact ⟨_, rfl, hk, rfl, ht, h4⟩
/-- The sum that a row of true symbols has, wherever new memory has been made since. -/
theorem law_sym {w wr w' : World} {size : Nat} {u1 u2 : Value} {S : List (List Nat)} {Q : List Nat} (h : LawW w wr size u1 u2 S Q) (hok : SizeOk S size) (hm : S.length ≤ 12) (hsz : size ≤ 4) {x : Nat} (hx : x < 2 ^ S.length) (hb : Below wr.heap.size wr w') :
    Calls Tryd.prog 21 #[.agg #[.int .i64 (size : Int), u1, u2], .int .u64 (x : Int)] w' fun e w'' => ∃ v', e = .returned v' ∧ w''.ownsRow wr.heap.size 5 1 v' size ((symOf S size x).map byteV) ∧ Below wr.heap.size wr w'' ∧ Below w'.heap.size w' w'' := by
  refine (sym5 size u1 u2 S x (h.syms.mono hb).at hok hm hx hsz).mono ?_
  rintro e w'' ⟨v', rfl, ho, hb2⟩
  exact ⟨v', rfl, ownsRow_base ho hb.size, hb.trans (hb2.mono hb.size), hb2⟩
/-- An equation of true symbols is added: all that is kept. -/
theorem law_eq {w wr w' : World} {b kb size : Nat} {u1 u2 : Value} {S : List (List Nat)} {Q P : List Nat} (h : LawW w wr size u1 u2 S Q) (hok : SizeOk S size) (hm : S.length ≤ 12) (hp : 1 ≤ S.length) (hs : Sys wr b S.length size (kQ S size P) (rkQ P) false kb) (hT : Tab w) (hP : ∀ q ∈ P, q < 2 ^ S.length)
    {x : Nat} (hx : x < 2 ^ S.length) (hbX : w.heap.size < b) (hkX : w.heap.size < kb) (hb : Below wr.heap.size wr w') (v1 v2 : Value) (h1 : ListAt wordV w' v1 [x]) (h2 : ListAt byteV w' v2 (symOf S size x)) :
    Calls Tryd.prog 16 #[sysP b, v1, v2] w' fun e w'' => ∃ k : Nat, e = .returned (.tuple #[.int .i64 (k : Int), .nilIface]) ∧ (k = 1 ∨ k = 2) ∧ k = kindV S.length (kQ S size P) (lqV S size x) ∧ Sys w' b S.length size (kQ S size P) (rkQ P) false kb ∧ Touch b kb w' w'' ∧ Sys w'' b S.length size (kQ S size (P ++ [x])) (rkQ (P ++ [x])) false kb ∧ LawW w w'' size u1 u2 S Q := by
  refine (law_add hok hm hp hs (hT.mono h.bel) hP hx hb v1 v2 h1 h2).mono ?_
  rintro e w'' ⟨k, rfl, hk, hk2, ht, hs2⟩
  exact ⟨k, rfl, hk, hk2, hs.mono hb, ht, hs2, (h.mono hb).touch (hs.mono hb) ht hbX hkX⟩
end Go.Proofs.YtnkkaggepokjeaaDoor
end

section
/- Package geyserref03: Whole, Check, Truths, sum, pivot, swap. -/
namespace Go.Proofs.YtnkkaggepokjeaaDoor
open Go.RowKit Go.Extern.Stop Go.Stop Go.Extern

set_option maxRecDepth 1000000 in
theorem Whole_any {w : World} (v : Value) (r : List Nat) (n : Nat) (h : ListAt wordV w v r) (hw : Word r) (hn : n ≤ 4096) :
    Calls Tryd.prog 31 #[v, .int .i64 (n : Int)] w fun e w' => e = .returned (.bool (wholeB n r)) ∧ w = w' := by
  have hlen := h.len
  have HL := Lib.hid h
  obtain ⟨a, cap, rfl, -, -, -⟩ := h
  have HW := Lib.hid hw
  have HS := Lib.hid (sizeI_of hn)
  have hK := kOf_le hn
  clear hw
  by_cases hl : r.length = kOf n
  · have HLL := Lib.hid hl
    have hl64 : r.length ≤ 64 := by omega
    have HE : Hid (∀ d, n ≤ d → bitW r d = true → wholeB n r = false) := Lib.hid fun d h1 h2 => wholeB_bit h1 h2
    have HT : Hid ((∀ d, n ≤ d → bitW r d = false) → wholeB n r = true) := Lib.hid fun h => wholeB_iff.2 ⟨hl, h⟩
    generalize wholeB n r = R at *
    generalize kOf n = K at *
    have hb : ((r.length : Int) == (K : Int)) = true := by simp; omega
    have hb2 : ((r.length : Int) != (K : Int)) = false := by simp; omega
    clear hl
    go_enter Tryd.func31, Tryd.ntmps31
    go_wp2_with fail
    refine (refSize_any (n : Int) (by omega)).mono ?_
    rintro e w1 ⟨rfl, rfl⟩
    rw [HS.out]
    go_wp2_with fail
    go_loopw [5] (fun c wr => ∃ k : Nat, n ≤ k ∧ k ≤ 1000000 ∧ c = .int .i64 k ∧ (∀ d, n ≤ d → d < k → bitW r d = false) ∧ w = wr) (fun c _ => 64 * r.length - (intOf c).toNat)
    case atStart => exact ⟨n, Nat.le_refl _, by omega, rfl, fun d h1 h2 => by omega, rfl⟩
    case round =>
      obtain ⟨k, hk, hk1, rfl, hz, rfl⟩ := hrel
      have HZ := Lib.hid hz
      clear hz
      by_cases hlt : k < 64 * r.length
      · have HH : Hid (hasI r (k : Int) = bitW r k) := Lib.hid (by rw [hasI, if_neg (by omega)]; rfl)
        cases hbit : bitW r k with
        | true =>
          have HB := Lib.hid hbit
          have HR := Lib.hid (HE.out k hk hbit)
          clear hbit
          go_wp2_with fail
          refine (refHas_any _ r (k : Int) HL.out HW.out (by omega) (by omega)).mono ?_
          rintro e w1 ⟨rfl, rfl⟩
          rw [HH.out, HB.out]
          go_wp2
          go_ret
          exact ⟨by rw [HR.out]; rfl, rfl⟩
        | false =>
          have HB := Lib.hid hbit
          clear hbit
          go_wp2_with fail
          refine (refHas_any _ r (k : Int) HL.out HW.out (by omega) (by omega)).mono ?_
          rintro e w1 ⟨rfl, rfl⟩
          rw [HH.out, HB.out]
          go_wp2
          go_roundw
          case rel => exact ⟨k + 1, by omega, by omega, by go_num, fun d h1 h2 => by
            by_cases e : d = k
            · subst e; exact HB.out
            · exact HZ.out d h1 (by omega), trivial⟩
          case measure => simp [intOf]; omega
      · have HR := Lib.hid (HT.out fun d hd => by
          by_cases h2 : d < k
          · exact HZ.out d hd h2
          · exact bitW_out _ _ (by omega))
        go_wp2
        go_ret
        exact ⟨by rw [HR.out]; rfl, rfl⟩
  · have HR := Lib.hid (wholeB_len hl)
    have hb : ((r.length : Int) == (kOf n : Int)) = false := by simp; omega
    have hb2 : ((r.length : Int) != (kOf n : Int)) = true := by simp; omega
    clear hl
    generalize wholeB n r = R at *
    generalize kOf n = K at *
    go_enter Tryd.func31, Tryd.ntmps31
    go_wp2_with fail
    refine (refSize_any (n : Int) (by omega)).mono ?_
    rintro e w1 ⟨rfl, rfl⟩
    rw [HS.out]
    go_wp2
    go_ret
    exact ⟨by rw [HR.out]; rfl, rfl⟩

theorem all_whole_false {n : Nat} {L : List (List Nat)} {k : Nat} (hk : k < L.length) (h : wholeB n (L.getD k []) = false) : L.all (wholeB n) = false := by
  rw [List.all_eq_false]
  exact ⟨_, getD_mem' hk, by rw [h]; decide⟩
theorem all_whole_true {n : Nat} {L : List (List Nat)} (h : ∀ j, j < L.length → wholeB n (L.getD j []) = true) : L.all (wholeB n) = true := by
  rw [List.all_eq_true]
  intro r hr
  obtain ⟨j, hj, rfl⟩ := List.getElem_of_mem hr
  have := h j hj
  simpa [hj] using this

set_option maxRecDepth 1000000 in
set_option maxHeartbeats 1000000 in
theorem Truths_any {w : World} (v : Value) (r : List Nat) (n : Nat) (h : ListAt wordV w v r) (hw : Word r) (hlen : r.length ≤ 100000) (hn : n ≤ 4096) :
    Calls Tryd.prog 78 #[v, .int .i64 (n : Int)] w fun e w' => ∃ v', e = .returned v' ∧ w'.ownsRow w.heap.size 4 1 v' n ((truthsB r n).map boolV) ∧ Below w.heap.size w w' := by
  obtain ⟨i0, hi, hz0, hz1, hz2⟩ := info_parts info_bool
  have HL := Lib.hid h
  have HW := Lib.hid hw
  obtain ⟨a, cap, rfl, -, -, -⟩ := h
  clear hw
  go_enter Tryd.func78, Tryd.ntmps78
  go_wp2_with (at_make; refine wpList_make_full _ rfl _ _ 65 rfl w.heap.size 4 i0 (.bool false) 1 Tryd.underlying65 hi hz0 hz1 .i64 .i64 _ _ n rfl rfl rfl rfl (by rw [hz2]; omega) (by unfold maxLen; omega) (Nat.le_refl _) ?_; intro w0 hown0 hgrow0; have hb0 := Lib.hid ((Below.refl w.heap.size w).grown hgrow0 (Nat.le_refl _) (fun k hk => by cases hk)); have ho0 := Lib.hid hown0; clear hown0 hgrow0)
  go_loopw [6] (fun i wr => ∃ k : Nat, k ≤ n ∧ i = .int .i64 k ∧ wr.ownsRow w.heap.size 4 1 (.slice (some ⟨w.heap.size, 0, none⟩) n n) n ((fillTo (bitW r) false n k).map boolV) ∧ Below w.heap.size w wr) (fun i _ => n - (intOf i).toNat)
  case atStart => exact ⟨0, Nat.zero_le _, rfl, by rw [fillTo_zero, List.map_replicate]; have := ho0.out; rw [Nat.mul_one] at this; exact toList_madeCells_one (.bool false) n ▸ this, hb0.out⟩
  case round =>
    obtain ⟨k, hk, rfl, hown, hbel⟩ := hrel
    have hsz := hbel.size
    have HO := Lib.hid hown
    have HB := Lib.hid hbel
    by_cases hlt : k < n
    · have HH : Hid (hasI r (k : Int) = bitW r k) := Lib.hid (by rw [hasI, if_neg (by omega)]; rfl)
      have hy3 : ∃ y, wr.cell? ⟨w.heap.size, k, none⟩ = some y := by
        have := hown.cellAt k (by omega)
        rw [this]
        exact ⟨_, List.getElem?_eq_getElem (by simp [fillTo_length]; exact hlt)⟩
      obtain ⟨y, hy3⟩ := hy3
      have hy4 : wr.frozen? ⟨w.heap.size, k, none⟩ = false := hown.frozenAt k
      have HS := Lib.hid (fillTo_set (bitW r) false n k)
      clear hown hbel
      go_wp2_with fail
      refine (refHas_any _ r (k : Int) (HL.out.mono HB.out) HW.out hlen (by omega)).mono ?_
      rintro e w1 ⟨rfl, rfl⟩
      rw [HH.out]
      generalize hbe : bitW r k = bt at *
      go_wp2
      go_roundw
      case rel => exact ⟨k + 1, by omega, by go_num, by rw [← HS.out, List.map_set]; exact (HO.out.stored k (.bool bt)).1, HB.out.setCell (p := ⟨w.heap.size, k, none⟩) (Nat.le_refl _) _⟩
      case measure => simp [intOf]; omega
    · have hk' : k = n := by omega
      clear hown hbel
      go_wp2
      go_ret
      exact ⟨_, rfl, by have := HO.out; rw [hk', fillTo_all] at this; exact this, HB.out⟩

set_option maxRecDepth 1000000 in
set_option maxHeartbeats 1000000 in
theorem sum_any {w : World} (v1 v2 : Value) (a b : List Bool) (h1 : ListAt boolV w v1 a) (h2 : ListAt boolV w v2 b) (hl : a.length = b.length) (hn : a.length ≤ 4096) :
    Calls Tryd.prog 86 #[v1, v2] w fun e w' => ∃ v', e = .returned v' ∧ w'.ownsRow w.heap.size 4 1 v' a.length ((sumB a b).map boolV) ∧ Below w.heap.size w w' := by
  obtain ⟨i0, hi, hz0, hz1, hz2⟩ := info_parts info_bool
  obtain ⟨a1, cap1, rfl, hcap1, -, hcell1⟩ := h1
  obtain ⟨a2, cap2, rfl, hcap2, -, hcell2⟩ := h2
  rw [← hl] at hcap2 ⊢
  have HC1 : Hid (0 < a.length → ∃ b off, a1 = some ⟨b, off, none⟩ ∧ ∀ j, j < a.length → w.cell? ⟨b, off + j, none⟩ = some (.bool (bitB a j))) := Lib.hid fun hp => by
    obtain ⟨b, off, e, h⟩ := hcell1 hp
    refine ⟨b, off, e, fun j hj => ?_⟩
    rw [h j hj]; simp [boolV, bitB, hj]
  have HC2 : Hid (0 < a.length → ∃ b' off, a2 = some ⟨b', off, none⟩ ∧ ∀ j, j < a.length → w.cell? ⟨b', off + j, none⟩ = some (.bool (bitB b j))) := Lib.hid fun hp => by
    obtain ⟨b', off, e, h⟩ := hcell2 (by omega)
    refine ⟨b', off, e, fun j hj => ?_⟩
    rw [h j (by omega)]
    have : j < b.length := by omega
    simp [boolV, bitB, this]
  have HS : Hid (sumB a b = (List.range a.length).map fun c => (bitB a c != bitB b c)) := Lib.hid rfl
  generalize sumB a b = S at *
  clear hcell1 hcell2 hl
  generalize a.length = n at *
  go_enter Tryd.func86, Tryd.ntmps86
  go_wp2_with (at_make; refine wpList_make_full _ rfl _ _ 65 rfl w.heap.size 4 i0 (.bool false) 1 Tryd.underlying65 hi hz0 hz1 .i64 .i64 _ _ n rfl rfl rfl rfl (by rw [hz2]; omega) (by unfold maxLen; omega) (Nat.le_refl _) ?_; intro w0 hown0 hgrow0; have hb0 := Lib.hid ((Below.refl w.heap.size w).grown hgrow0 (Nat.le_refl _) (fun k hk => by cases hk)); have ho0 := Lib.hid hown0; clear hown0 hgrow0)
  go_loopw [6] (fun i wr => ∃ k : Nat, k ≤ n ∧ i = .int .i64 k ∧ wr.ownsRow w.heap.size 4 1 (.slice (some ⟨w.heap.size, 0, none⟩) n n) n ((fillTo (fun c => (bitB a c != bitB b c)) false n k).map boolV) ∧ Below w.heap.size w wr) (fun i _ => n - (intOf i).toNat)
  case atStart => exact ⟨0, Nat.zero_le _, rfl, by rw [fillTo_zero, List.map_replicate]; have := ho0.out; rw [Nat.mul_one] at this; exact toList_madeCells_one (.bool false) n ▸ this, hb0.out⟩
  case round =>
    obtain ⟨k, hk, rfl, hown, hbel⟩ := hrel
    have hsz := hbel.size
    have HO := Lib.hid hown
    have HB := Lib.hid hbel
    by_cases hlt : k < n
    · obtain ⟨b1, off1, rfl, hc1⟩ := HC1.out (by omega)
      obtain ⟨b2, off2, rfl, hc2⟩ := HC2.out (by omega)
      have hx1 := hc1 k hlt
      have hx2 := hc2 k hlt
      have hy1 := (hbel.cell (p := ⟨b1, off1 + k, none⟩) (World.block_lt_of_cell? w _ hx1)).trans hx1
      have hy2 := (hbel.cell (p := ⟨b2, off2 + k, none⟩) (World.block_lt_of_cell? w _ hx2)).trans hx2
      have hy3 : ∃ y, wr.cell? ⟨w.heap.size, k, none⟩ = some y := by
        have := hown.cellAt k (by omega)
        rw [this]
        exact ⟨_, List.getElem?_eq_getElem (by simp [fillTo_length]; exact hlt)⟩
      obtain ⟨y, hy3⟩ := hy3
      have hy4 : wr.frozen? ⟨w.heap.size, k, none⟩ = false := hown.frozenAt k
      have HST := Lib.hid (fillTo_set (fun c => (bitB a c != bitB b c)) false n k)
      clear hown hbel hc1 hc2 hx1 hx2
      have hN := neqBool (bitB a k) (bitB b k) _ rfl
      generalize hbe : (bitB a k != bitB b k) = bt at *
      generalize bitB a k = p1 at hN hy1
      generalize bitB b k = p2 at hN hy2
      have HBE := Lib.hid hbe
      clear hbe
      go_wp2_with fail
      go_region
      go_wp2
      go_roundw
      case rel => exact ⟨k + 1, by omega, by go_num, by rw [← HST.out, List.map_set]; exact (HO.out.stored k (.bool bt)).1, (HB.out.setCell (p := ⟨w.heap.size, k, none⟩) (Nat.le_refl _) _).drew⟩
      case measure => simp [intOf]; omega
    · have hk' : k = n := by omega
      clear hown hbel
      go_wp2
      go_ret
      exact ⟨_, rfl, by have := HO.out; rw [hk', fillTo_all, ← HS.out] at this; exact this, HB.out⟩

theorem boolV_get (b : List Bool) (j : Nat) (h : j < b.length) : boolV b[j] = .bool (bitB b j) := by simp [boolV, bitB, h]

/-- What pivot answers. -/
def PivAns (R : List (List Bool)) (done c : Nat) (z : Int) : Prop :=
  (z = -1 ∧ ∀ k, done ≤ k → k < R.length → bitB (R.getD k []) c = false) ∨ ∃ i : Nat, z = (i : Int) ∧ done ≤ i ∧ i < R.length ∧ bitB (R.getD i []) c = true

set_option maxRecDepth 1000000 in
theorem pivot_any {w : World} (v : Value) (R : List (List Bool)) (n done c : Nat) (h : MatAt boolV w v R) (hr : ∀ k, k < R.length → (R.getD k []).length = n) (hc : c < n) (hn : n ≤ 4096) (hl : R.length ≤ 100000) (hd : done ≤ R.length) :
    Calls Tryd.prog 75 #[v, .int .i64 (done : Int), .int .i64 (c : Int)] w fun e w' => ∃ z, e = .returned (.int .i64 z) ∧ PivAns R done c z ∧ w = w' := by
  obtain ⟨a, cap, rfl, hcap, hcm, hcell⟩ := h.opens
  have HC := Lib.hid hcell
  have HR := Lib.hid hr
  clear hcell h hr
  go_enter Tryd.func75, Tryd.ntmps75
  go_wp2
  go_loopw [7] (fun i wr => ∃ k : Nat, done ≤ k ∧ k ≤ R.length ∧ i = .int .i64 k ∧ (∀ j, done ≤ j → j < k → bitB (R.getD j []) c = false) ∧ w = wr) (fun i _ => R.length - (intOf i).toNat)
  case atStart => exact ⟨done, Nat.le_refl _, hd, rfl, fun j h1 h2 => by omega, rfl⟩
  case round =>
    obtain ⟨k, hk, hk2, rfl, hz, rfl⟩ := hrel
    have HZ := Lib.hid hz
    clear hz
    by_cases hlt : k < R.length
    · obtain ⟨b, off, rfl, hcc⟩ := HC.out (by omega)
      obtain ⟨x, hx, hlx⟩ := hcc k hlt
      have hxl := HR.out k hlt
      have HBIT : Hid (bitB (R.getD k []) c = bitB (R.getD k []) c) := Lib.hid rfl
      obtain ⟨ax, cx, rfl, -, -, hcx⟩ := hlx
      obtain ⟨b2, off2, rfl, hc2⟩ := hcx (by omega)
      have hy : w.cell? ⟨b2, off2 + c, none⟩ = some (.bool (bitB (R.getD k []) c)) := by
        rw [hc2 c (by omega)]
        exact congrArg some (boolV_get _ _ _)
      rw [hxl] at hx
      clear hcc hcx hc2 hxl
      have HK : Hid (∀ bt, bitB (R.getD k []) c = bt → (bt = false → ∀ j, done ≤ j → j < k + 1 → bitB (R.getD j []) c = false) ∧ (bt = true → PivAns R done c (k : Int))) := Lib.hid fun bt e => ⟨fun h j h1 h2 => by
        by_cases e2 : j = k
        · subst e2; rw [e]; exact h
        · exact HZ.out j h1 (by omega), fun h => .inr ⟨k, rfl, hk, hlt, by rw [e]; exact h⟩⟩
      clear HBIT
      generalize bitB (R.getD k []) c = bt at hy HK
      have HK2 := Lib.hid (HK.out bt rfl)
      clear HK
      cases bt with
      | true =>
        have HP := Lib.hid (HK2.out.2 rfl)
        clear HK2
        go_wp2
        go_ret
        exact ⟨_, rfl, HP.out, rfl⟩
      | false =>
        have HP := Lib.hid (HK2.out.1 rfl)
        clear HK2
        go_wp2
        go_roundw
        case rel => exact ⟨k + 1, by omega, by omega, by go_num, HP.out, trivial⟩
        case measure => simp [intOf]; omega
    · have hk' : k = R.length := by omega
      have HP : Hid (PivAns R done c (-1)) := Lib.hid (.inl ⟨rfl, fun j h1 h2 => HZ.out j h1 (by omega)⟩)
      go_wp2
      go_ret
      exact ⟨_, rfl, HP.out, rfl⟩
end Go.Proofs.YtnkkaggepokjeaaDoor
end

section
/- Package geyserref03: swap, clear, All, Words, Same. -/
namespace Go.Proofs.YtnkkaggepokjeaaDoor
open Go.RowKit Go.Extern.Stop Go.Stop Go.Extern

def swB (R : List (List Bool)) (i j : Nat) : List (List Bool) := (R.set i (R.getD j [])).set j (R.getD i [])
theorem swB_length (R : List (List Bool)) (i j : Nat) : (swB R i j).length = R.length := by simp [swB]

theorem swap_facts {w w1 : World} {e : TypeId} {b off q i j : Nat} {vs : List Value} {R : List (List Bool)} {o : Value} (hq : vs.length = q) (hR : R.length = q) (hi : i < q) (hj : j < q)
    (hc : ∀ k, k < q → w.cell? ⟨b, off + k, none⟩ = some (vs.getD k nilS)) (hel : ∀ k, ListAt boolV w (vs.getD k nilS) (R.getD k [])) (ho : w1.ownsRow w.heap.size e 1 o q vs) (hb : Below w.heap.size w w1) :
    ∃ g co ai li ci aj lj cj y, o = .slice (some ⟨g, 0, none⟩) q co ∧ vs.getD i nilS = .slice ai li ci ∧ vs.getD j nilS = .slice aj lj cj ∧
      w1.cell? ⟨b, off + j, none⟩ = some (.slice aj lj cj) ∧ w1.cell? ⟨g, i, none⟩ = some (.slice ai li ci) ∧ w1.frozen? ⟨g, i, none⟩ = false ∧
      (w1.setCell ⟨g, i, none⟩ (.slice aj lj cj)).cell? ⟨b, off + i, none⟩ = some (.slice ai li ci) ∧ (w1.setCell ⟨g, i, none⟩ (.slice aj lj cj)).cell? ⟨g, j, none⟩ = some y ∧
      (w1.setCell ⟨g, i, none⟩ (.slice aj lj cj)).frozen? ⟨g, j, none⟩ = false ∧
      Hid (MatAt boolV ((w1.setCell ⟨g, i, none⟩ (.slice aj lj cj)).setCell ⟨g, j, none⟩ (.slice ai li ci)) (.slice (some ⟨g, 0, none⟩) q co) (swB R i j)) ∧
      Hid (Below w.heap.size w ((w1.setCell ⟨g, i, none⟩ (.slice aj lj cj)).setCell ⟨g, j, none⟩ (.slice ai li ci))) := by
  obtain ⟨ao, co, rfl, hco, hao⟩ := own_open ho
  obtain ⟨g, rfl⟩ := hao (by omega)
  have hg := (ho.lt g rfl).1
  have hbl : b < w.heap.size := World.block_lt_of_cell? w _ (hc i hi)
  have hbg : ¬ b = g := by omega
  have hci1 : w1.cell? ⟨b, off + i, none⟩ = some (vs.getD i nilS) := (hb.cell (p := ⟨b, off + i, none⟩) hbl).trans (hc i hi)
  have hcj1 : w1.cell? ⟨b, off + j, none⟩ = some (vs.getD j nilS) := (hb.cell (p := ⟨b, off + j, none⟩) hbl).trans (hc j hj)
  have hgi : w1.cell? ⟨g, i, none⟩ = some (vs.getD i nilS) := by
    rw [ho.cellAt i (by omega)]
    have : i < vs.length := by omega
    simp [this]
  have HS1 := (ho.stored i (vs.getD j nilS)).1
  have hci2 : (w1.setCell ⟨g, i, none⟩ (vs.getD j nilS)).cell? ⟨b, off + i, none⟩ = some (vs.getD i nilS) := (World.cell?_setCell_other _ _ _ _ (by intro e; exact hbg (congrArg Addr.block e).symm)).trans hci1
  have hgj : ∃ y, (w1.setCell ⟨g, i, none⟩ (vs.getD j nilS)).cell? ⟨g, j, none⟩ = some y := by
    rw [HS1.cellAt j (by omega)]
    exact ⟨_, List.getElem?_eq_getElem (by simp [hq]; omega)⟩
  obtain ⟨y, hgj⟩ := hgj
  have HS2 := (HS1.stored j (vs.getD i nilS)).1
  have HB2 := (hb.setCell (p := ⟨g, i, none⟩) hg (vs.getD j nilS)).setCell (p := ⟨g, j, none⟩) hg (vs.getD i nilS)
  have HEND : MatAt boolV ((w1.setCell ⟨g, i, none⟩ (vs.getD j nilS)).setCell ⟨g, j, none⟩ (vs.getD i nilS)) (.slice (some ⟨g, 0, none⟩) q co) (swB R i j) := by
    have hlq : ((vs.set i (vs.getD j nilS)).set j (vs.getD i nilS)).length = q := by simp [hq]
    refine ⟨(vs.set i (vs.getD j nilS)).set j (vs.getD i nilS), ListAt.of_owns (n := q) (by rw [List.map_id]; exact HS2), by rw [swB_length, hlq, hR], fun k => ?_⟩
    have hold := fun k => (hel k).mono HB2
    unfold swB
    rw [getD_set _ _ _ _ _ (by simp; omega), getD_set _ _ _ _ _ (by omega), getD_set _ _ _ _ _ (by simp; omega), getD_set _ _ _ _ _ (by omega)]
    by_cases e1 : k = j
    · rw [if_pos e1, if_pos e1]; exact hold i
    · rw [if_neg e1, if_neg e1]
      by_cases e2 : k = i
      · rw [if_pos e2, if_pos e2]; exact hold j
      · rw [if_neg e2, if_neg e2]; exact hold k
  obtain ⟨ai, ci, ei, _⟩ := hel i
  obtain ⟨aj, cj, ej, _⟩ := hel j
  have hgf := HS1.frozenAt j
  rw [ei] at hgi hci2 HEND HB2
  rw [ej] at hcj1 hci2 HEND HB2 hgj hgf
  exact ⟨g, co, ai, _, ci, aj, _, cj, y, rfl, ei, ej, hcj1, hgi, ho.frozenAt i, hci2, hgj, hgf, HEND, HB2⟩

set_option maxRecDepth 1000000 in
set_option maxHeartbeats 1000000 in
theorem swap_any {w : World} (v : Value) (R : List (List Bool)) (i j : Nat) (h : MatAt boolV w v R) (hi : i < R.length) (hj : j < R.length) (hl : R.length ≤ 100000) :
    Calls Tryd.prog 77 #[v, .int .i64 (i : Int), .int .i64 (j : Int)] w fun e w' => ∃ v', e = .returned v' ∧ MatAt boolV w' v' (swB R i j) ∧ Below w.heap.size w w' := by
  obtain ⟨i0, hi0, hz0, hz1, hz2⟩ := info_parts info_brow
  obtain ⟨vs, hvs, hvl, hel⟩ := h
  have HB0 := Lib.hid ((Below.refl w.heap.size w).alloc (Nat.le_refl _) (.cells #[] 65))
  have HO0 := Lib.hid (World.ownsRow_made (base := w.heap.size) (e := 65) (size := 1) w #[] 0 (Nat.le_refl _) (by decide) rfl)
  have HVA := Lib.hid (hvs.mono HB0.out)
  have HSL := Lib.hid (MatAt.slices hel)
  have HCELL : ∃ b off, (∃ cap, v = .slice (some ⟨b, off, none⟩) vs.length cap) ∧ ∀ k, k < vs.length → w.cell? ⟨b, off + k, none⟩ = some (vs.getD k nilS) := by
    obtain ⟨a, cap, rfl, _, _, hcl⟩ := hvs
    obtain ⟨b, off, rfl, hc⟩ := hcl (by omega)
    refine ⟨b, off, ⟨cap, rfl⟩, fun k hk => ?_⟩
    rw [hc k hk]; simp [hk]
  obtain ⟨b, off, ⟨cap, rfl⟩, hcc⟩ := HCELL
  generalize hq : vs.length = q at *
  have HF : Hid (∀ o w1, w1.ownsRow w.heap.size 65 1 o q vs → Below w.heap.size w w1 → _) := Lib.hid fun o w1 ho hb => swap_facts (o := o) (w1 := w1) (R := R) (i := i) (j := j) hq hvl.symm (by omega) (by omega) hcc hel ho hb
  rw [← hvl] at hl hi hj
  clear hel hvs hcc hvl
  go_enter Tryd.func77, Tryd.ntmps77
  go_wp2_with (at_builtin; refine wpList_append_of (f := id) _ rfl (.tmp 8) (.tmp 9) 105 rfl w.heap.size 65 i0 (.slice none 0 0) 24 Tryd.underlying105 hi0 hz0 hz1 hz2 rfl _ 0 [] rfl HO0.out _ vs rfl HVA.out HSL.out (by rw [hq]; unfold maxLen; omega) (by rw [hq]; omega) (by simp) ?_; intro o w1 hown1 hgrow1; have hb1 := HB0.out.grown hgrow1 (by simp) (fun k hk => (HO0.out.lt k hk).1); rw [hq, Nat.zero_add, List.nil_append, List.map_id] at hown1; obtain ⟨g, co, ai, li, ci, aj, lj, cj, y, rfl, -, -, f1, f2, f3, f4, f5, f6, HEND, HB2⟩ := HF.out o w1 hown1 hb1; clear hown1 hgrow1 hb1 HF)
  go_ret
  exact ⟨_, rfl, HEND.out, HB2.out⟩

/-! ### clear -/
def clB (R : List (List Bool)) (a c k : Nat) : List Bool := if k ≠ a ∧ bitB (R.getD k []) c = true then sumB (R.getD k []) (R.getD a []) else R.getD k []
def clTo (R : List (List Bool)) (a c k : Nat) : List (List Bool) := (List.range k).map (clB R a c)
theorem clTo_length (R : List (List Bool)) (a c k : Nat) : (clTo R a c k).length = k := by simp [clTo]
theorem clTo_succ (R : List (List Bool)) (a c k : Nat) : clTo R a c (k + 1) = clTo R a c k ++ [clB R a c k] := by unfold clTo; rw [List.range_succ, List.map_append]; rfl
theorem clB_sum {R : List (List Bool)} {a c k : Nat} (h1 : k ≠ a) (h2 : bitB (R.getD k []) c = true) : clB R a c k = sumB (R.getD k []) (R.getD a []) := if_pos ⟨h1, h2⟩
theorem clB_same {R : List (List Bool)} {a c k : Nat} (h : ¬ (k ≠ a ∧ bitB (R.getD k []) c = true)) : clB R a c k = R.getD k [] := if_neg h

set_option maxRecDepth 1000000 in
set_option maxHeartbeats 4000000 in
theorem clear_any {w : World} (v : Value) (R : List (List Bool)) (n a c : Nat) (h : MatAt boolV w v R) (hr : ∀ k, k < R.length → (R.getD k []).length = n) (ha : a < R.length) (hc : c < n) (hn : n ≤ 4096) (hl : R.length ≤ 100000) :
    Calls Tryd.prog 76 #[v, .int .i64 (a : Int), .int .i64 (c : Int)] w fun e w' => ∃ v', e = .returned v' ∧ MatAt boolV w' v' (clTo R a c R.length) ∧ Below w.heap.size w w' := by
  obtain ⟨i0, hi0, hz0, hz1, hz2⟩ := info_parts info_brow
  obtain ⟨ad, cap, rfl, hcap, hcm, hcell⟩ := h.opens
  have HC := Lib.hid hcell
  have HR := Lib.hid hr
  clear hcell h hr
  go_enter Tryd.func76, Tryd.ntmps76
  go_wp2
  go_loopw [7, 8] (fun o i wr => ∃ k : Nat, k ≤ R.length ∧ i = .int .i64 k ∧ MatOwn boolV 4 w.heap.size 65 wr o (clTo R a c k) ∧ Below w.heap.size w wr) (fun _ i _ => R.length - (intOf i).toNat)
  case atStart => exact ⟨0, Nat.zero_le _, rfl, MatOwn.start w (Nat.le_refl _), (Below.refl _ _).alloc (Nat.le_refl _) _⟩
  case round =>
    obtain ⟨k, hk, rfl, ⟨vs, hown, hel⟩, hbel⟩ := hrel
    have hsz := hbel.size
    by_cases hlt : k < R.length
    · obtain ⟨b, off, rfl, hcc⟩ := HC.out (by omega)
      obtain ⟨x, hx, hlx⟩ := hcc k hlt
      have HLX := Lib.hid hlx
      have hxl := HR.out k hlt
      have hal := HR.out a ha
      obtain ⟨ax, cx, rfl, -, -, hcx⟩ := hlx
      obtain ⟨b2, off2, rfl, hc2⟩ := hcx (by omega)
      have hx1 : wr.cell? ⟨b, off + k, none⟩ = some (.slice (some ⟨b2, off2, none⟩) n cx) := by
        rw [← hxl]
        exact (hbel.cell (p := ⟨b, off + k, none⟩) (World.block_lt_of_cell? w _ hx)).trans hx
      have hy : w.cell? ⟨b2, off2 + c, none⟩ = some (.bool (bitB (R.getD k []) c)) := by
        rw [hc2 c (by omega)]
        exact congrArg some (boolV_get _ _ _)
      have hy1 : wr.cell? ⟨b2, off2 + c, none⟩ = some (.bool (bitB (R.getD k []) c)) := (hbel.cell (p := ⟨b2, off2 + c, none⟩) (World.block_lt_of_cell? w _ hy)).trans hy
      rw [hxl] at HLX
      have HEX : Hid (ElAt boolV 4 w.heap.size wr (.slice (some ⟨b2, off2, none⟩) n cx) (R.getD k [])) := Lib.hid (ElAt.old HLX.out hbel)
      have HO := Lib.hid hown
      rw [clTo_length] at HO
      have HEL := Lib.hid hel
      have HB := Lib.hid hbel
      have HQ := Lib.hid (clTo_length R a c k)
      have HS := Lib.hid (clTo_succ R a c k)
      by_cases hka : k = a
      · have HSAME : Hid (clB R a c k = R.getD k []) := Lib.hid (clB_same (by simp [hka]))
        have hb1 : ((k : Int) != (a : Int)) = false := by simp; omega
        clear hcc hcx hc2 hx hy hxl hal hown hel hbel hka
        go_wp2_with (at_builtin; refine wpList_append_own _ rfl (.tmp 40) (.tmp 45) 105 rfl w.heap.size 65 i0 (.slice none 0 0) 1 24 Tryd.underlying105 hi0 hz0 hz1 hz2 rfl (by decide) u7 k vs rfl (HO.out.alloc _) ⟨wr.heap.size, 0, none⟩ 1 1 [.slice (some ⟨b2, off2, none⟩) n cx] rfl rfl (cell_one_new _ _ _) (fun x hx => by simp at hx; subst hx; rfl) (by unfold maxLen; omega) (by omega) (by simp; omega) ?_; intro v2 w2 hown1 hgrow1 _; have hb2 := Lib.hid ((HB.out.alloc hsz _).grown hgrow1 (by simp; omega) (fun k hk => (HO.out.lt k hk).1)); have ho2 : Hid (MatOwn boolV 4 w.heap.size 65 w2 v2 (clTo R a c k ++ [R.getD k []])) := Lib.hid (MatOwn.app (by decide) (by rw [HQ.out]; exact HO.out) HEL.out HEX.out (by rw [HQ.out]; exact hown1) hgrow1); clear hown1 hgrow1)
        go_roundw
        case rel => exact ⟨k + 1, by omega, by go_num, by rw [HS.out, HSAME.out]; exact ho2.out, hb2.out⟩
        case measure => simp [intOf]; omega
      · have hb1 : ((k : Int) != (a : Int)) = true := by simp; omega
        cases hbt : bitB (R.getD k []) c with
        | false =>
          have HSAME : Hid (clB R a c k = R.getD k []) := Lib.hid (clB_same (by rw [hbt]; simp))
          rw [hbt] at hy1
          clear hcc hcx hc2 hx hy hxl hal hown hel hbel hka hbt
          go_wp2_with (at_builtin; refine wpList_append_own _ rfl (.tmp 40) (.tmp 45) 105 rfl w.heap.size 65 i0 (.slice none 0 0) 1 24 Tryd.underlying105 hi0 hz0 hz1 hz2 rfl (by decide) u7 k vs rfl (HO.out.alloc _) ⟨wr.heap.size, 0, none⟩ 1 1 [.slice (some ⟨b2, off2, none⟩) n cx] rfl rfl (cell_one_new _ _ _) (fun x hx => by simp at hx; subst hx; rfl) (by unfold maxLen; omega) (by omega) (by simp; omega) ?_; intro v2 w2 hown1 hgrow1 _; have hb2 := Lib.hid ((HB.out.alloc hsz _).grown hgrow1 (by simp; omega) (fun k hk => (HO.out.lt k hk).1)); have ho2 : Hid (MatOwn boolV 4 w.heap.size 65 w2 v2 (clTo R a c k ++ [R.getD k []])) := Lib.hid (MatOwn.app (by decide) (by rw [HQ.out]; exact HO.out) HEL.out HEX.out (by rw [HQ.out]; exact hown1) hgrow1); clear hown1 hgrow1)
          go_roundw
          case rel => exact ⟨k + 1, by omega, by go_num, by rw [HS.out, HSAME.out]; exact ho2.out, hb2.out⟩
          case measure => simp [intOf]; omega
        | true =>
          have HSUM : Hid (clB R a c k = sumB (R.getD k []) (R.getD a [])) := Lib.hid (clB_sum hka hbt)
          rw [hbt] at hy1
          obtain ⟨xa, hxa, hla⟩ := hcc a ha
          have hwr : Below w.heap.size w wr.drew := hbel.drew
          have HLK : Hid (ListAt boolV wr.drew (.slice (some ⟨b2, off2, none⟩) n cx) (R.getD k [])) := Lib.hid (HLX.out.mono hwr)
          have HLA : Hid (ListAt boolV wr.drew xa (R.getD a [])) := Lib.hid (hla.mono hwr)
          obtain ⟨aa, ca, rfl, -, -, -⟩ := hla
          rw [hal] at hxa HLA
          have hxa1 : wr.cell? ⟨b, off + a, none⟩ = some (.slice aa n ca) := (hbel.cell (p := ⟨b, off + a, none⟩) (World.block_lt_of_cell? w _ hxa)).trans hxa
          have HLL : Hid ((R.getD k []).length = (R.getD a []).length) := Lib.hid (by omega)
          have HLN := Lib.hid hxl
          have HB2 := Lib.hid hwr
          have HO2 : Hid (wr.drew.ownsRow w.heap.size 65 1 u7 k vs) := Lib.hid HO.out.drew
          have HEL2 := Lib.hid (fun i => (hel i).mono (w' := wr.drew) (Below.refl _ _).drew)
          clear hcc hcx hc2 hx hy hxl hal hown hel hbel hka hbt HEL HO HB hxa hwr HLX HEX
          have HN6 : Hid ((R.getD k []).length ≤ 4096) := Lib.hid (by have := HLN.out; omega)
          go_wp2_with fail
          go_region_law (first
            | (go_simp; go_at_call 86; refine (sum_any _ _ (R.getD k []) (R.getD a []) HLK.out HLA.out HLL.out HN6.out).mono ?_; rintro e w1 ⟨vn, rfl, hvn, hbn⟩; rw [HLN.out] at hvn; have HEN : Hid (ElAt boolV 4 w.heap.size w1 vn (sumB (R.getD k []) (R.getD a []))) := Lib.hid (ElAt.own hvn); have HO3 := Lib.hid (owns_kept HO2.out hbn); have HEL3 := Lib.hid (fun i => (HEL2.out i).mono hbn); have hszd := HB2.out.size; have HB3 := Lib.hid (HB2.out.trans (hbn.mono hszd)); have hsz1 := HB3.out.size; obtain ⟨an, cn, rfl, -, -⟩ := own_open hvn; clear hvn hbn HEL2 HO2 HB2 HLK HLA)
            | (refine step_append_lies _ rfl (.tmp 28) (.tmp 38) 105 rfl w.heap.size 65 i0 (.slice none 0 0) 1 24 Tryd.underlying105 hi0 hz0 hz1 hz2 rfl (by decide) u7 k vs (by simp [Act.eval]) (HO3.out.alloc _) ⟨w1.heap.size, 0, none⟩ 1 1 [.slice an n cn] (by simp [Act.eval]) rfl (cell_one_new _ _ _) (fun x hx => by simp at hx; subst hx; rfl) (by decide) (by unfold maxLen; omega) (by omega) (by simp; omega) _ rfl ?_; intro g2 c2 w2 hown1 hgrow1 _ _; have hb2 := Lib.hid ((HB3.out.alloc hsz1 _).grown hgrow1 (by simp; omega) (fun k hk => (HO3.out.lt k hk).1)); have ho2 : Hid (MatOwn boolV 4 w.heap.size 65 w2 _ (clTo R a c k ++ [sumB (R.getD k []) (R.getD a [])])) := Lib.hid (MatOwn.app (by decide) (by rw [HQ.out]; exact HO3.out) HEL3.out HEN.out (by rw [HQ.out]; exact hown1) hgrow1); clear hown1 hgrow1))
          all_goals go_wp2
          all_goals exact ⟨⟨k + 1, by omega, by go_num, by rw [HS.out, HSUM.out]; exact ho2.out, hb2.out⟩, by simp [intOf]; omega⟩
    · have hk' : k = R.length := by omega
      have HM := Lib.hid (MatOwn.at ⟨vs, hown, hel⟩)
      rw [hk'] at HM
      have HB := Lib.hid hbel
      clear hown hel hbel
      go_wp2
      go_ret
      exact ⟨_, rfl, HM.out, HB.out⟩
end Go.Proofs.YtnkkaggepokjeaaDoor
end

section
/- Package geyserref03: All, Words, Same, Gauss. -/
namespace Go.Proofs.YtnkkaggepokjeaaDoor
open Go.RowKit Go.Extern.Stop Go.Stop Go.Extern

/-! ### All -/
def allTo (L : List (List Nat)) (n k : Nat) : List (List Bool) := (L.take k).map fun r => truthsB r n
theorem allTo_succ {L : List (List Nat)} {n k : Nat} (h : k < L.length) : allTo L n (k + 1) = allTo L n k ++ [truthsB (L.getD k []) n] := by
  unfold allTo
  rw [List.take_succ_eq_append_getElem h, List.map_append]
  simp [h]
theorem allTo_length {L : List (List Nat)} {n k : Nat} (h : k ≤ L.length) : (allTo L n k).length = k := by unfold allTo; rw [List.length_map, List.length_take]; omega
theorem allTo_all (L : List (List Nat)) (n : Nat) : allTo L n L.length = allB L n := by unfold allTo allB; rw [List.take_length]

set_option maxRecDepth 1000000 in
set_option maxHeartbeats 1000000 in
theorem All_any {w : World} (v : Value) (L : List (List Nat)) (n : Nat) (h : MatAt wordV w v L) (hw : ∀ r ∈ L, Word r) (hlen : ∀ k, (L.getD k []).length ≤ 100000) (hn : n ≤ 4096) (hl : L.length ≤ 100000) :
    Calls Tryd.prog 49 #[v, .int .i64 (n : Int)] w fun e w' => ∃ v', e = .returned v' ∧ MatAt boolV w' v' (allB L n) ∧ Below w.heap.size w w' := by
  obtain ⟨i0, hi0, hz0, hz1, hz2⟩ := info_parts info_brow
  have HWD : Hid (∀ k, Word (L.getD k [])) := Lib.hid fun k => h.getD_words hw k
  have HLEN := Lib.hid hlen
  obtain ⟨ad, cap, rfl, hcap, hcm, hcell⟩ := h.opens
  have HC := Lib.hid hcell
  clear hcell h hw hlen
  go_enter Tryd.func49, Tryd.ntmps49
  go_wp2
  go_loopw [5, 6] (fun o i wr => ∃ k : Nat, k ≤ L.length ∧ i = .int .i64 k ∧ MatOwn boolV 4 w.heap.size 65 wr o (allTo L n k) ∧ Below w.heap.size w wr) (fun _ i _ => L.length - (intOf i).toNat)
  case atStart => exact ⟨0, Nat.zero_le _, rfl, MatOwn.start w (Nat.le_refl _), (Below.refl _ _).alloc (Nat.le_refl _) _⟩
  case round =>
    obtain ⟨k, hk, rfl, ⟨vs, hown, hel⟩, hbel⟩ := hrel
    have hsz := hbel.size
    by_cases hlt : k < L.length
    · obtain ⟨b, off, rfl, hcc⟩ := HC.out (by omega)
      obtain ⟨x, hx, hlx⟩ := hcc k hlt
      have HLX := Lib.hid (hlx.mono hbel)
      obtain ⟨ax, cx, rfl, -, -, -⟩ := hlx
      have hx1 : wr.cell? ⟨b, off + k, none⟩ = some (.slice ax (L.getD k []).length cx) := (hbel.cell (p := ⟨b, off + k, none⟩) (World.block_lt_of_cell? w _ hx)).trans hx
      have HQ := Lib.hid (allTo_length (n := n) hk)
      have HO := Lib.hid hown
      rw [allTo_length hk] at HO
      have HEL := Lib.hid hel
      have HB := Lib.hid hbel
      have HS := Lib.hid (allTo_succ (n := n) hlt)
      have HWX := Lib.hid (HWD.out k)
      have HLN := Lib.hid (HLEN.out k)
      clear hcc hx hown hel hbel
      generalize L.getD k [] = r at *
      go_wp2_with fail
      refine (Truths_any _ r n HLX.out HWX.out HLN.out hn).mono ?_
      rintro e w1 ⟨vn, rfl, hvn, hbn⟩
      have HEN : Hid (ElAt boolV 4 w.heap.size w1 vn (truthsB r n)) := Lib.hid (ElAt.own hvn)
      have HO3 := Lib.hid (owns_kept HO.out hbn)
      have HEL3 := Lib.hid (fun i => (HEL.out i).mono hbn)
      have HB3 := Lib.hid (HB.out.trans (hbn.mono hsz))
      have hsz1 := HB3.out.size
      obtain ⟨an, cn, rfl, -, -⟩ := own_open hvn
      clear hvn hbn HEL HO HB HLX
      go_wp2_with (at_builtin; refine wpList_append_own _ rfl (.tmp 14) (.tmp 21) 105 rfl w.heap.size 65 i0 (.slice none 0 0) 1 24 Tryd.underlying105 hi0 hz0 hz1 hz2 rfl (by decide) u5 k vs rfl (HO3.out.alloc _) ⟨w1.heap.size, 0, none⟩ 1 1 [.slice an n cn] rfl rfl (cell_one_new _ _ _) (fun x hx => by simp at hx; subst hx; rfl) (by unfold maxLen; omega) (by omega) (by simp; omega) ?_; intro v2 w2 hown1 hgrow1 _; have hb2 := Lib.hid ((HB3.out.alloc hsz1 _).grown hgrow1 (by simp; omega) (fun k hk => (HO3.out.lt k hk).1)); have ho2 : Hid (MatOwn boolV 4 w.heap.size 65 w2 v2 (allTo L n k ++ [truthsB r n])) := Lib.hid (MatOwn.app (by decide) (by rw [HQ.out]; exact HO3.out) HEL3.out HEN.out (by rw [HQ.out]; exact hown1) hgrow1); clear hown1 hgrow1)
      go_roundw
      case rel => exact ⟨k + 1, by omega, by go_num, by rw [HS.out]; exact ho2.out, hb2.out⟩
      case measure => simp [intOf]; omega
    · have hk' : k = L.length := by omega
      have HM := Lib.hid (MatOwn.at ⟨vs, hown, hel⟩)
      rw [hk', allTo_all] at HM
      have HB := Lib.hid hbel
      clear hown hel hbel
      go_wp2
      go_ret
      exact ⟨_, rfl, HM.out, HB.out⟩

/-! ### Words -/
/-! ### Same -/
end Go.Proofs.YtnkkaggepokjeaaDoor
end

section
/- Package geyserref03: Gauss, Rank, Plain, Picks, Spans. -/
namespace Go.Proofs.YtnkkaggepokjeaaDoor
open Go.RowKit Go.Extern.Stop Go.Stop Go.Extern

def RowsLen (R : List (List Bool)) (n : Nat) : Prop := ∀ k, k < R.length → (R.getD k []).length = n

theorem swB_getD {R : List (List Bool)} {i j k : Nat} (hi : i < R.length) (hj : j < R.length) : (swB R i j).getD k [] = if k = j then R.getD i [] else if k = i then R.getD j [] else R.getD k [] := by
  unfold swB
  rw [getD_set _ _ _ _ _ (by simp; omega), getD_set _ _ _ _ _ hi]
theorem swB_rows {R : List (List Bool)} {n i j : Nat} (h : RowsLen R n) (hi : i < R.length) (hj : j < R.length) : RowsLen (swB R i j) n := fun k hk => by
  rw [swB_length] at hk
  rw [swB_getD hi hj]
  split
  · exact h i hi
  · split
    · exact h j hj
    · exact h k hk
theorem clTo_getD {R : List (List Bool)} {a c n k : Nat} (hk : k < n) : (clTo R a c n).getD k [] = clB R a c k := by
  unfold clTo; rw [range_getD, if_pos hk]
theorem clTo_rows {R : List (List Bool)} {n a c : Nat} (h : RowsLen R n) : RowsLen (clTo R a c R.length) n := fun k hk => by
  rw [clTo_length] at hk
  rw [clTo_getD hk]
  unfold clB
  split
  · rw [sumB_length]; exact h k hk
  · exact h k hk

/-- One step of the elimination, as it is made. -/
theorem gauss_rows {R : List (List Bool)} {n done c i : Nat} (h : RowsLen R n) (hd : done < R.length) (hi : i < R.length) :
    ∀ k, k < (vecsB R).length → (vecsB (clTo (swB R done i) done c R.length)).getD k vzero = clf (swf (vecsB R) done i) done c k := by
  intro k hk
  rw [vecsB_length] at hk
  have hs : ∀ j, bitB ((swB R done i).getD j []) = swf (vecsB R) done i j := fun j => by
    rw [swB_getD hd hi]
    unfold swf
    rw [vecsB_getD, vecsB_getD, vecsB_getD]
    by_cases e1 : j = i
    · rw [if_pos e1, if_pos e1]
    · rw [if_neg e1, if_neg e1]
      by_cases e2 : j = done
      · rw [if_pos e2, if_pos e2]
      · rw [if_neg e2, if_neg e2]
  rw [vecsB_getD, clTo_getD hk]
  unfold clB clf
  rw [hs k]
  by_cases hc : k ≠ done ∧ swf (vecsB R) done i k c = true
  · rw [if_pos hc, if_pos hc, bitB_sum, hs k, hs done]
    have hl := swB_rows h hd hi
    rw [hl k (by rw [swB_length]; exact hk), hl done (by rw [swB_length]; exact hd)]
  · rw [if_neg hc, if_neg hc, hs k]

theorem rows_low {R : List (List Bool)} {n : Nat} (h : RowsLen R n) : ∀ r ∈ vecsB R, ∀ c, n ≤ c → r c = false := fun r hr c hc => by
  obtain ⟨b, hb, rfl⟩ := List.mem_map.1 hr
  obtain ⟨k, hk, rfl⟩ := List.getElem_of_mem hb
  have := h k hk
  have e : R.getD k [] = R[k] := by simp [hk]
  rw [e] at this
  exact bitB_out (by omega)

/-- The frame of the elimination's loop. -/
def GIn (R0 R : List (List Bool)) (n done c : Nat) : Prop := R.length = R0.length ∧ RowsLen R n ∧ (∃ p, GI (vecsB R) done c p) ∧ SpEq (vecsB R) (vecsB R0)
theorem GIn.start {R : List (List Bool)} {n : Nat} (h : RowsLen R n) : GIn R R n 0 0 := ⟨rfl, h, ⟨fun _ => 0, GI.start _ _⟩, SpEq.refl _⟩
theorem GIn.done_le {R0 R : List (List Bool)} {n done c : Nat} (h : GIn R0 R n done c) : done ≤ R.length := by
  obtain ⟨_, _, ⟨p, hp⟩, _⟩ := h
  have := hp.le
  rwa [vecsB_length] at this
theorem GIn.skip {R0 R : List (List Bool)} {n done c : Nat} (h : GIn R0 R n done c) (hn : ∀ k, done ≤ k → k < R.length → bitB (R.getD k []) c = false) : GIn R0 R n done (c + 1) := by
  obtain ⟨h1, h2, ⟨p, hp⟩, h4⟩ := h
  exact ⟨h1, h2, ⟨p, hp.skip fun k a b => by rw [vecsB_length] at b; rw [vecsB_getD]; exact hn k a b⟩, h4⟩
theorem GIn.step {R0 R : List (List Bool)} {n done c i : Nat} (h : GIn R0 R n done c) (hi : done ≤ i) (hil : i < R.length) (hb : bitB (R.getD i []) c = true) : GIn R0 (clTo (swB R done i) done c R.length) n (done + 1) (c + 1) := by
  obtain ⟨h1, h2, ⟨p, hp⟩, h4⟩ := h
  have hd : done < R.length := by omega
  have hg := gauss_rows (c := c) h2 hd hil
  have hl : (vecsB (clTo (swB R done i) done c R.length)).length = (vecsB R).length := by rw [vecsB_length, vecsB_length, clTo_length]
  refine ⟨by rw [clTo_length]; exact h1, ?_, ⟨_, hp.step hi (by rw [vecsB_length]; exact hil) (by rw [vecsB_getD]; exact hb) hl hg⟩, (gauss_span hi (by rw [vecsB_length]; exact hil) hl hg).trans h4⟩
  have := clTo_rows (a := done) (c := c) (swB_rows h2 hd hil)
  rwa [swB_length] at this
theorem GIn.finish {R0 R : List (List Bool)} {n done : Nat} (h : GIn R0 R n done n) : RowsLen (R.take done) n ∧ PF (vecsB (R.take done)) ∧ SpEq (vecsB (R.take done)) (vecsB R0) := by
  obtain ⟨h1, h2, ⟨p, hp⟩, h4⟩ := h
  have e : vecsB (R.take done) = (vecsB R).take done := by unfold vecsB; rw [List.map_take]
  obtain ⟨f1, f2⟩ := hp.finish (rows_low h2)
  rw [← e] at f1 f2
  refine ⟨fun k hk => ?_, f1, f2.trans h4⟩
  rw [List.length_take] at hk
  have := h2 k (by omega)
  simp only [List.getD_eq_getElem?_getD, List.getElem?_take] at this ⊢
  rw [if_pos (by omega)]
  exact this

set_option maxRecDepth 1000000 in
set_option maxHeartbeats 2000000 in
/-- The elimination over the first n columns of rows of m. -/
theorem Gauss_gen {w : World} (v : Value) (R0 : List (List Bool)) (n m : Nat) (h : MatAt boolV w v R0) (hr : RowsLen R0 m) (hnm : n ≤ m) (hn : m ≤ 4096) (hl : R0.length ≤ 100000) :
    Calls Tryd.prog 48 #[v, .int .i64 (n : Int)] w fun e w' => ∃ v' R, ∃ done : Nat, e = .returned v' ∧ MatAt boolV w' v' (R.take done) ∧ GIn R0 R m done n ∧ Below w.heap.size w w' := by
  have HM0 := Lib.hid h
  have HR0 := Lib.hid hr
  clear h hr
  go_enter Tryd.func48, Tryd.ntmps48
  go_wp2
  go_loopw [0, 5, 6] (fun v d i wr => ∃ (c done : Nat) (R : List (List Bool)), c ≤ n ∧ i = .int .i64 c ∧ d = .int .i64 done ∧ MatAt boolV wr v R ∧ GIn R0 R m done c ∧ Below w.heap.size w wr) (fun _ _ i _ => n - (intOf i).toNat)
  case atStart => exact ⟨0, 0, R0, Nat.zero_le _, rfl, rfl, HM0.out, GIn.start HR0.out, Below.refl _ _⟩
  case round =>
    obtain ⟨c, done, R, hc, rfl, rfl, hM, hG, hbel⟩ := hrel
    have hsz := hbel.size
    have hdl := hG.done_le
    have hRl : R.length ≤ 100000 := by have := hG.1; omega
    have HM := Lib.hid hM
    have HG := Lib.hid hG
    have HB := Lib.hid hbel
    have HRL := Lib.hid hRl
    have HDL := Lib.hid hdl
    have HRW : Hid (∀ k, k < R.length → (R.getD k []).length = m) := Lib.hid hG.2.1
    clear hM hG hbel
    by_cases hlt : c < n
    · go_wp2_with fail
      refine (pivot_any _ R m done c HM.out HRW.out (by omega) hn hRl hdl).mono ?_
      rintro e w1 ⟨z, rfl, hz, rfl⟩
      rcases hz with ⟨rfl, hz⟩ | ⟨i, rfl, hdi, hil, hbit⟩
      · have HS := Lib.hid (HG.out.skip hz)
        clear hz
        go_wp2
        go_roundw
        case rel => exact ⟨c + 1, done, R, by omega, by go_num, rfl, HM.out, HS.out, HB.out⟩
        case measure => simp [intOf]; omega
      · have hd : done < R.length := by omega
        have HS := Lib.hid (HG.out.step hdi hil hbit)
        have HSR := Lib.hid (swB_rows HRW.out hd hil)
        have HSL := Lib.hid (swB_length R done i)
        clear hbit
        go_wp2_with fail
        refine (swap_any _ R done i HM.out hd hil hRl).mono ?_
        rintro e w1 ⟨v1, rfl, hv1, hb1⟩
        have HM1 := Lib.hid hv1
        have HB1 := Lib.hid (HB.out.trans (hb1.mono hsz))
        have hsz1 := HB1.out.size
        obtain ⟨a1, c1, rfl, -, -, -⟩ := hv1.opens
        clear hv1 hb1
        go_wp2_with fail
        refine (clear_any _ (swB R done i) m done c HM1.out HSR.out (by rw [HSL.out]; exact hd) (by omega) hn (by rw [HSL.out]; exact hRl)).mono ?_
        rintro e w2 ⟨v2, rfl, hv2, hb2⟩
        rw [HSL.out] at hv2
        have HM2 := Lib.hid hv2
        have HB2 := Lib.hid (HB1.out.trans (hb2.mono hsz1))
        obtain ⟨a2, c2, rfl, -, -, -⟩ := hv2.opens
        clear hv2 hb2
        go_wp2
        go_roundw
        case rel => exact ⟨c + 1, done + 1, _, by omega, by go_num, by go_num, HM2.out, HS.out, HB2.out⟩
        case measure => simp [intOf]; omega
    · have hc' : c = n := by omega
      subst hc'
      obtain ⟨a, cap, rfl, hcap, hcm, hcell⟩ := HM.out.opens
      have HT := Lib.hid (HM.out.take done hdl)
      have hdc : (done : Int) ≤ (cap : Int) := by omega
      clear hcell
      by_cases hR : 0 < R.length
      · go_wp2
        go_ret
        exact ⟨_, R, done, rfl, HT.out, HG.out, HB.out⟩
      · have hd0 : done = 0 := by omega
        subst hd0
        go_wp2
        go_ret
        exact ⟨_, R, 0, rfl, HT.out, HG.out, HB.out⟩

theorem Gauss_any {w : World} (v : Value) (R0 : List (List Bool)) (n : Nat) (h : MatAt boolV w v R0) (hr : RowsLen R0 n) (hn : n ≤ 4096) (hl : R0.length ≤ 100000) :
    Calls Tryd.prog 48 #[v, .int .i64 (n : Int)] w fun e w' => ∃ v' R, e = .returned v' ∧ MatAt boolV w' v' R ∧ RowsLen R n ∧ PF (vecsB R) ∧ SpEq (vecsB R) (vecsB R0) ∧ R.length ≤ R0.length ∧ Below w.heap.size w w' := by
  refine (Gauss_gen v R0 n n h hr (Nat.le_refl _) hn hl).mono ?_
  rintro e w' ⟨v', R, done, rfl, hm, hG, hb⟩
  obtain ⟨f1, f2, f3⟩ := hG.finish
  exact ⟨v', R.take done, rfl, hm, f1, f2, f3, by rw [List.length_take]; have := hG.1; omega, hb⟩
end Go.Proofs.YtnkkaggepokjeaaDoor
end

section
/- Package geyserref03: Rank, Plain, Picks, Spans. -/
namespace Go.Proofs.YtnkkaggepokjeaaDoor
open Go.RowKit Go.Extern.Stop Go.Stop Go.Extern

theorem MatOk.len {L : List (List Nat)} {n : Nat} (h : MatOk L n) (k : Nat) : (L.getD k []).length ≤ 100000 := by
  by_cases hk : k < L.length
  · rw [(h.whole _ (getD_mem' hk)).1]
    have := kOf_le h.cols
    omega
  · rw [List.getD_eq_getElem?_getD, List.getElem?_eq_none (by omega)]; simp
theorem MatOk.take {L : List (List Nat)} {n : Nat} (h : MatOk L n) (k : Nat) : MatOk (L.take k) n := h.sub (fun _ hr => List.mem_of_mem_take hr) (by have := h.rows; rw [List.length_take]; omega)
theorem allB_rows (L : List (List Nat)) (n : Nat) : RowsLen (allB L n) n := fun k hk => by
  unfold allB at hk ⊢
  rw [List.length_map] at hk
  simp [hk, truthsB_length]
theorem allB_length (L : List (List Nat)) (n : Nat) : (allB L n).length = L.length := by simp [allB]

set_option maxRecDepth 1000000 in
set_option maxHeartbeats 1000000 in
theorem refRank_any {w : World} (v : Value) (L : List (List Nat)) (n : Nat) (h : MatAt wordV w v L) (hm : MatOk L n) :
    Calls Tryd.prog 27 #[v, .int .i64 (n : Int)] w fun e w' => e = .returned (.int .i64 ((rk (vecs L) : Nat) : Int)) ∧ Below w.heap.size w w' := by
  have HM := Lib.hid h
  have HW := Lib.hid hm.words
  have HLN := Lib.hid hm.len
  have HV := Lib.hid (vecsB_all hm)
  have hn := hm.cols
  have hl : L.length ≤ 100000 := by have := hm.rows; omega
  obtain ⟨a, cap, rfl, -, -, -⟩ := h.opens
  clear h hm
  go_enter Tryd.func27, Tryd.ntmps27
  go_wp2_with fail
  refine (All_any _ L n HM.out HW.out HLN.out hn hl).mono ?_
  rintro e w1 ⟨v1, rfl, hv1, hb1⟩
  have HM1 := Lib.hid hv1
  have HB1 := Lib.hid hb1
  have hsz1 := hb1.size
  obtain ⟨a1, c1, rfl, -, -, -⟩ := hv1.opens
  clear hv1 hb1
  go_wp2_with fail
  refine (Gauss_any _ (allB L n) n HM1.out (allB_rows L n) hn (by rw [allB_length]; exact hl)).mono ?_
  rintro e w2 ⟨v2, R, rfl, hv2, -, hpf, hsp, -, hb2⟩
  have HR : Hid (R.length = rk (vecs L)) := Lib.hid (by
    have := hpf.rank hsp
    rw [vecsB_length, HV.out] at this
    exact this)
  have HB2 := Lib.hid (HB1.out.trans (hb2.mono hsz1))
  obtain ⟨a2, c2, rfl, -, -, -⟩ := hv2.opens
  clear hv2 hb2 hpf hsp
  go_wp2
  go_ret
  exact ⟨by rw [HR.out]; rfl, HB2.out⟩

/-! ### Plain -/
theorem words_take {R : List (List Bool)} {k : Nat} (h : k < R.length) : (R.take (k + 1)).map wordsB = (R.take k).map wordsB ++ [wordsB (R.getD k [])] := by
  rw [List.take_succ_eq_append_getElem h, List.map_append]
  simp [h]

/-! ### Picks, Spans -/
theorem refRank_pre {w wr : World} {a : Option Addr} {cap : Nat} (L : List (List Nat)) (n k : Nat) (h : MatAt wordV w (.slice a L.length cap) L) (hm : MatOk L n) (hk : k ≤ L.length) (hb : Below w.heap.size w wr) :
    Calls Tryd.prog 27 #[.slice a k cap, .int .i64 (n : Int)] wr fun e w' => e = .returned (.int .i64 ((rk ((vecs L).take k) : Nat) : Int)) ∧ Below wr.heap.size wr w' := by
  have := refRank_any _ (L.take k) n ((h.take k hk).mono hb) (hm.take k)
  rwa [vecs_take] at this

set_option maxRecDepth 1000000 in
set_option maxHeartbeats 2000000 in
theorem refSpans_any {w : World} (v x : Value) (L : List (List Nat)) (r : List Nat) (n : Nat) (h : MatAt wordV w v L) (hx : ListAt wordV w x r) (hm : MatOk L n) (hm2 : MatOk (L ++ [r]) n) :
    Calls Tryd.prog 57 #[v, .int .i64 (n : Int), x] w fun e w' => ∃ bt, e = .returned (.bool bt) ∧ (bt = true ↔ Sp (vecs L) (bitW r)) ∧ Below w.heap.size w w' := by
  obtain ⟨i0, hi0, hz0, hz1, hz2⟩ := info_parts info_row
  have HM0 := Lib.hid h
  have HOK := Lib.hid hm
  have HOK2 := Lib.hid hm2
  have HCASE : Hid ((rk (vecs (L ++ [r])) = rk (vecs L) ∧ Sp (vecs L) (bitW r)) ∨ (rk (vecs (L ++ [r])) = rk (vecs L) + 1 ∧ ¬ Sp (vecs L) (bitW r))) := Lib.hid (by
    have e : vecs (L ++ [r]) = vecs L ++ [bitW r] := vecs_append L [r]
    rw [e]
    by_cases hs : Sp (vecs L) (bitW r)
    · exact .inl ⟨rk_in hs, hs⟩
    · exact .inr ⟨rk_out hs, hs⟩)
  have hl : L.length ≤ 100000 := by have := hm.rows; omega
  obtain ⟨vs, hvs, hvl, hel⟩ := h
  have HB0 := Lib.hid ((Below.refl w.heap.size w).alloc (Nat.le_refl _) (.cells #[] 38))
  have HO0 := Lib.hid (World.ownsRow_made (base := w.heap.size) (e := 38) (size := 1) w #[] 0 (Nat.le_refl _) (by decide) rfl)
  have HVA := Lib.hid (hvs.mono HB0.out)
  have HSL := Lib.hid (MatAt.slices hel)
  have HEL := Lib.hid hel
  have HX := Lib.hid hx
  obtain ⟨ax, cx, rfl, -, -, -⟩ := hx
  obtain ⟨a, cap, rfl, -, -, -⟩ := hvs
  generalize hq : vs.length = q at *
  have HVL := Lib.hid hvl
  rw [← hvl] at hl
  clear hm hm2 hel hvl
  go_enter Tryd.func57, Tryd.ntmps57
  go_wp2_with (first
    | (at_builtin; refine wpList_append_of (f := id) _ rfl (.tmp 8) (.tmp 9) 67 rfl w.heap.size 38 i0 (.slice none 0 0) 24 Tryd.underlying67 hi0 hz0 hz1 hz2 rfl _ 0 [] rfl HO0.out _ vs rfl HVA.out HSL.out (by rw [hq]; unfold maxLen; omega) (by rw [hq]; omega) (by simp) ?_; intro o w1 hown1 hgrow1; have hb1 := HB0.out.grown hgrow1 (by simp) (fun k hk => (HO0.out.lt k hk).1); rw [hq, Nat.zero_add, List.nil_append, List.map_id] at hown1; have HO1 := Lib.hid hown1; have HB1 := Lib.hid hb1; have hsz1 := hb1.size; clear hown1 hgrow1 hb1)
    | (at_builtin; refine wpList_append_own _ rfl (.tmp 11) (.tmp 13) 67 rfl w.heap.size 38 i0 (.slice none 0 0) 1 24 Tryd.underlying67 hi0 hz0 hz1 hz2 rfl (by decide) o q vs rfl (HO1.out.alloc _) ⟨w1.heap.size, 0, none⟩ 1 1 [.slice ax r.length cx] rfl rfl (cell_one_new _ _ _) (fun x hx => by simp at hx; subst hx; rfl) (by unfold maxLen; omega) (by omega) (by simp; omega) ?_; intro v2 w2 hown2 hgrow2 _; have hb2 := Lib.hid ((HB1.out.alloc hsz1 _).grown hgrow2 (by simp; omega) (fun k hk => (HO1.out.lt k hk).1)); have ho2 : Hid (MatOwn wordV 47 w.heap.size 38 w2 v2 (L ++ [r])) := Lib.hid (MatOwn.app (by decide) (by rw [← HVL.out]; exact HO1.out) (fun i => ElAt.old (HEL.out i) HB1.out) (ElAt.old HX.out HB1.out) (by rw [← HVL.out]; exact hown2) hgrow2); clear hown2 hgrow2))
  have HM2 := Lib.hid ho2.out.at
  have hsz2 := hb2.out.size
  go_wp2_with fail
  refine (refRank_any _ (L ++ [r]) n HM2.out HOK2.out).mono ?_
  rintro e w3 ⟨rfl, hb3⟩
  have HB3 := Lib.hid (hb2.out.trans (hb3.mono hsz2))
  have hsz3 := HB3.out.size
  clear hb3
  go_wp2_with fail
  refine (refRank_any _ L n (HM0.out.mono HB3.out) HOK.out).mono ?_
  rintro e w4 ⟨rfl, hb4⟩
  have HB4 := Lib.hid (HB3.out.trans (hb4.mono hsz3))
  clear hb4
  generalize rk (vecs (L ++ [r])) = m1 at *
  generalize rk (vecs L) = m0 at *
  rcases HCASE.out with ⟨hm, hp⟩ | ⟨hm, hp⟩
  · have HP := Lib.hid hp
    subst hm
    have hb : ((m1 : Int) == (m1 : Int)) = true := by simp
    clear HCASE hp
    go_wp2
    go_ret
    exact ⟨true, rfl, ⟨fun _ => HP.out, fun _ => rfl⟩, HB4.out⟩
  · have HP := Lib.hid hp
    have hb : ((m1 : Int) == (m0 : Int)) = false := by simp; omega
    clear HCASE hp hm
    go_wp2
    go_ret
    exact ⟨false, rfl, ⟨(fun h => by cases h), fun h => absurd h HP.out⟩, HB4.out⟩
end Go.Proofs.YtnkkaggepokjeaaDoor
end
