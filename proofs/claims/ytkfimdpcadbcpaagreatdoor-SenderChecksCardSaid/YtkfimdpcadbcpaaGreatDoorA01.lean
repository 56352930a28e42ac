import Derived.Test.YtkfimdpcadbcpaaGreatDoorChecked
import Derived.WalkKit
import Derived.ProofKit
import Derived.OpenShut
import Derived.Deep.DeepHandedRow
import Derived.Deep.Strs
import Derived.LaidHandle
import Derived.Lib.BitFns
import Derived.Lib.TrailingZeros
import Derived.Laws.Bits64b
import Derived.Lib.Hide
import Derived.Laws.AppendOwn
import Derived.Laws.OwnMore
import Derived.Laws.MakeOwn
import Derived.Laws.AppendOwnNone
import Derived.Deep.Draws
set_option linter.unusedSimpArgs false
set_option linter.unusedVariables false
set_option maxRecDepth 1000000
set_option maxHeartbeats 8000000
namespace Go.Proofs.YtkfimdpcadbcpaaGreatDoor
section
open Go.RowKit
theorem lhd {p : Prop} (h : p) : Hid p := Lib.hid h
theorem nrz : (∀ {α : Type} (xs : List α) (i : Nat) (h : i < xs.toArray.size), xs.toArray[i] = xs[i]'(by simpa using h)) ∧ (∀ {α : Type} (a : α) (l : List α) (i : Nat) (h : i + 1 < (a :: l).length), (a :: l)[i + 1] = l[i]'(Nat.lt_of_succ_lt_succ h)) ∧ (∀ {α : Type} (a : α) (l : List α) (h : 0 < (a :: l).length), (a :: l)[0] = a) ∧
  (∀ {α : Type} (l : List α) (i : Nat) (a : α), l.toArray.setIfInBounds i a = (l.set i a).toArray) ∧ (∀ {α : Type} (x : α) (xs : List α) (y : α), (x :: xs).set 0 y = y :: xs) ∧ (∀ {α : Type} (x : α) (xs : List α) (n : Nat) (y : α), (x :: xs).set (n + 1) y = x :: xs.set n y) :=
  ⟨fun _ _ _ => rfl, fun _ _ _ _ => rfl, fun _ _ _ => rfl, fun _ _ _ => by simp, fun _ _ _ => rfl, fun _ _ _ _ => rfl⟩
end
section
open Go.ChangeShapes Go.WideShapes Go.ChangeAt Go.RowKit Go.Deep
section
variable {H : Type} {enc : TypeId × Value → H} {P : Program}
theorem zEn (hl : laidOutB P = true) {W W' : World} (hb : Below W.heap.size W W') : ∀ (ts : List TypeId) (vs : List Value) (ds : List (DataW H)) (ps : List MemPlace),
    (ts.all fun t => P.readableRec t && decide (t < P.types.size)) = true → DataW.TrodAll enc P W 0 (fun _ => true) true ts vs ds ps → (∀ x ∈ ps, x.block < W.heap.size) →
    DataW.TrodAll enc P W' 0 (fun b => decide (b < W.heap.size)) true ts vs ds ps := by
  intro ts
  induction ts with
  | nil =>
    intro vs ds ps _ h _
    obtain ⟨rfl, rfl, rfl⟩ := trodAll_nil h
    exact trodAll_mk0
  | cons t ts ih =>
    intro vs ds ps hr h hlt
    obtain ⟨v, vs', d, ds', p, q, rfl, rfl, rfl, h1, h2⟩ := trodAll_cons h
    simp only [List.all_cons, Bool.and_eq_true, decide_eq_true_eq] at hr
    exact trodAll_cons_mk (Below.trod hl hr.1.1 hr.1.2 h1 hb (fun x hx => hlt x (by simp [hx]))) (ih vs' ds' q hr.2 h2 (fun x hx => hlt x (by simp [hx])))
theorem law_post {fn : Func} {s : ChangeSpec} {apart fresh handsOn : Bool} {W W' : World} {args : Array Value} {ds gs : List (DataW H)} {before : List MemPlace} {bt : TypeId}
    (hl : laidOutB P = true) (hr : (fn.params.toList.all fun t => P.readableRec t && decide (t < P.types.size)) = true) (hrt : fn.resultTypes = #[bt]) (hbt : P.underlying bt = some .bool)
    (hsv : s.vars = []) (hW : DataW.Whole enc P fn.params.toList s.vars apart W args.toList ds gs before)
    (hspec : s.fn H (ds ++ gs) = { results := [.lit (.bool true)], args := ds, vars := [] }) (hb : Below W.heap.size W W') :
    s.post enc P fn apart fresh handsOn false W args (.bool true) W' := by
  have hW' := hW
  obtain ⟨p, q, hA, hV, rfl, _, _⟩ := hW
  rw [hsv] at hV
  obtain ⟨rfl, rfl⟩ := trodVars_none hV
  refine ⟨ds, [], _, [], p, [], hW', ?_, ?_, ?_, hb.frame _, fun h => by cases h⟩
  · rw [hspec, hrt]; exact trodAll_mk1 (shut_bool hbt true)
  · rw [hspec]; exact zEn hl hb _ _ _ _ hr hA (fun x hx => by have := hW'.lt x (by simp [hx]); exact this)
  · rw [hspec, hsv]; rfl
end
end

section
def popN : Nat → Nat → Nat
  | 0, _ => 0
  | n + 1, x => x % 2 + popN n (x / 2)
theorem zLG (k m : Nat) : ∀ y, popN (k + m) y = popN k y + popN m (y / 2 ^ k) := by
  induction k with
  | zero => intro y; simp [popN]
  | succ k ih =>
    intro y
    rw [Nat.add_right_comm, popN, ih, popN, Nat.div_div_eq_div_mul, Nat.pow_succ, Nat.mul_comm 2, Nat.add_assoc]
theorem zFT (n : Nat) : ∀ x, ((List.range n).filter (fun i => x.testBit i)).length = popN n x := by
  induction n with
  | zero => intro x; rfl
  | succ n ih =>
    intro x
    rw [List.range_succ_eq_map, List.filter_cons, List.filter_map, popN, ← ih (x / 2)]
    have e : ((fun i => x.testBit i) ∘ Nat.succ) = fun i => (x / 2).testBit i := by funext i; simp [Nat.testBit_succ]
    rw [e, Nat.testBit_zero]
    by_cases h : x % 2 = 1
    · simp [h]; omega
    · simp [h]; omega
def pop (x : Nat) : Nat := popN 64 x
theorem zME (n : Nat) : ∀ x, popN n x ≤ n := by
  induction n with
  | zero => intro x; exact Nat.le_refl _
  | succ n ih => intro x; have := ih (x / 2); simp only [popN]; omega
theorem zIE (x : Nat) : pop x ≤ 64 := zME 64 x
theorem zKc (j a c r s : Nat) (ha : a < 2 ^ j) (hc : c < 2 ^ j) : (2 ^ j * r + a) &&& (2 ^ j * s + c) = 2 ^ j * (r &&& s) + (a &&& c) := by
  apply Nat.eq_of_testBit_eq
  intro i
  have hac : a &&& c < 2 ^ j := Nat.and_lt_two_pow _ hc
  rw [Nat.testBit_and, Nat.testBit_two_pow_mul_add _ ha, Nat.testBit_two_pow_mul_add _ hc, Nat.testBit_two_pow_mul_add _ hac]
  by_cases h : i < j <;> simp [h, Nat.testBit_and]
def val8 : List Nat → Nat
  | [] => 0
  | a :: r => 256 * val8 r + a
theorem zA7 (a c r s : Nat) (ha : a < 256) (hc : c < 256) : (256 * r + a) &&& (256 * s + c) = 256 * (r &&& s) + (a &&& c) := zKc 8 a c r s ha hc
def b1 (a : Nat) : Nat := ((a / 2) &&& 85) + (a &&& 85)
def b2 (a : Nat) : Nat := ((a / 4) &&& 51) + (a &&& 51)
def b3 (a : Nat) : Nat := (a / 16 + a) &&& 15
theorem k1 : ∀ a : Fin 256, ∀ t : Fin 2, (a.val / 2 + 128 * t.val) &&& 85 = (a.val / 2) &&& 85 := by decide +kernel
theorem k2 : ∀ a : Fin 256, ∀ t : Fin 4, (a.val / 4 + 64 * t.val) &&& 51 = (a.val / 4) &&& 51 := by decide +kernel
theorem k3 : ∀ a : Fin 256, ∀ t : Fin 16, a.val % 16 ≤ 4 → a.val / 16 ≤ 4 → t.val ≤ 4 → (a.val / 16 + a.val + 16 * t.val) &&& 15 = (a.val / 16 + a.val) &&& 15 := by decide +kernel
theorem k1lt : ∀ a : Fin 256, b1 a.val < 256 := by decide +kernel
theorem k2lt : ∀ a : Fin 256, b2 (b1 a.val) < 256 ∧ b2 (b1 a.val) % 16 ≤ 4 ∧ b2 (b1 a.val) / 16 ≤ 4 := by decide +kernel
theorem k3pop : ∀ a : Fin 256, b3 (b2 (b1 a.val)) = popN 8 a.val ∧ popN 8 a.val ≤ 8 := by decide +kernel
theorem step1 : ∀ bs : List Nat, (∀ b ∈ bs, b < 256) → ((val8 bs / 2) &&& val8 (List.replicate bs.length 85)) + (val8 bs &&& val8 (List.replicate bs.length 85)) = val8 (bs.map b1)
  | [], _ => by simp [val8]
  | a :: r, h => by
    have ha : a < 256 := h a (by simp)
    have ih := step1 r fun b hb => h b (by simp [hb])
    have e : (256 * val8 r + a) / 2 = 256 * (val8 r / 2) + (a / 2 + 128 * (val8 r % 2)) := by omega
    have k := k1 ⟨a, ha⟩ ⟨val8 r % 2, by omega⟩
    simp only at k
    simp only [List.length_cons, List.replicate_succ, val8, List.map_cons]
    rw [e, zA7 _ _ _ _ (by omega) (by omega), zA7 _ _ _ _ ha (by omega), k, ← ih, b1]
    omega
theorem step2 : ∀ bs : List Nat, (∀ b ∈ bs, b < 256) → ((val8 bs / 4) &&& val8 (List.replicate bs.length 51)) + (val8 bs &&& val8 (List.replicate bs.length 51)) = val8 (bs.map b2)
  | [], _ => by simp [val8]
  | a :: r, h => by
    have ha : a < 256 := h a (by simp)
    have ih := step2 r fun b hb => h b (by simp [hb])
    have e : (256 * val8 r + a) / 4 = 256 * (val8 r / 4) + (a / 4 + 64 * (val8 r % 4)) := by omega
    have k := k2 ⟨a, ha⟩ ⟨val8 r % 4, by omega⟩
    simp only at k
    simp only [List.length_cons, List.replicate_succ, val8, List.map_cons]
    rw [e, zA7 _ _ _ _ (by omega) (by omega), zA7 _ _ _ _ ha (by omega), k, ← ih, b2]
    omega
theorem step3 : ∀ bs : List Nat, (∀ b ∈ bs, b < 256 ∧ b % 16 ≤ 4 ∧ b / 16 ≤ 4) → (val8 bs / 16 + val8 bs) &&& val8 (List.replicate bs.length 15) = val8 (bs.map b3)
  | [], _ => by simp [val8]
  | a :: r, h => by
    obtain ⟨ha, ha1, ha2⟩ := h a (by simp)
    have ih := step3 r fun b hb => h b (by simp [hb])
    have hr : val8 r % 16 ≤ 4 := by
      cases r with
      | nil => simp [val8]
      | cons b r' => have hb := (h b (by simp)).2.1; simp only [val8]; omega
    have e : (256 * val8 r + a) / 16 + (256 * val8 r + a) = 256 * (val8 r / 16 + val8 r) + (a / 16 + a + 16 * (val8 r % 16)) := by omega
    have k := k3 ⟨a, ha⟩ ⟨val8 r % 16, by omega⟩ ha1 ha2 hr
    simp only at k
    simp only [List.length_cons, List.replicate_succ, val8, List.map_cons]
    rw [e, zA7 _ _ _ _ (by omega) (by omega), k, ← ih, b3]
theorem zDG : ∀ bs : List Nat, (∀ b ∈ bs, b < 256) → popN (8 * bs.length) (val8 bs) = (bs.map (popN 8)).sum
  | [], _ => rfl
  | a :: r, h => by
    have ha : a < 256 := h a (by simp)
    have ih := zDG r fun b hb => h b (by simp [hb])
    simp only [List.length_cons, List.map_cons, List.sum_cons, val8]
    rw [show 8 * (r.length + 1) = 8 + 8 * r.length by omega, zLG, show (256 * val8 r + a) / 2 ^ 8 = val8 r by omega, ih]
    congr 1
    simp only [popN]
    omega
theorem len8 (l : List Nat) (h : l.length = 8) : ∃ c0 c1 c2 c3 c4 c5 c6 c7, l = [c0, c1, c2, c3, c4, c5, c6, c7] := by
  match l, h with
  | [c0, c1, c2, c3, c4, c5, c6, c7], _ => exact ⟨c0, c1, c2, c3, c4, c5, c6, c7, rfl⟩
theorem zMA (l : List Nat) (hl : l.length = 8) (hb : ∀ b ∈ l, b < 256) : val8 l < 18446744073709551616 := by
  obtain ⟨c0, c1, c2, c3, c4, c5, c6, c7, rfl⟩ := len8 l hl
  simp only [List.mem_cons, List.not_mem_nil, or_false, forall_eq_or_imp, forall_eq] at hb
  simp only [val8]
  omega
theorem zLr (l : List Nat) (hl : l.length = 8) (hb : ∀ b ∈ l, b < 256 ∧ b % 16 ≤ 4 ∧ b / 16 ≤ 4) : val8 l / 16 + val8 l < 18446744073709551616 ∧ val8 l < 18446744073709551616 := by
  obtain ⟨c0, c1, c2, c3, c4, c5, c6, c7, rfl⟩ := len8 l hl
  simp only [List.mem_cons, List.not_mem_nil, or_false, forall_eq_or_imp, forall_eq] at hb
  simp only [val8]
  omega
theorem zJz (l : List Nat) (hl : l.length = 8) (hb : ∀ b ∈ l, b ≤ 8) :
    let x3 := val8 l
    let x4 := x3 + x3 / 256
    let x5 := x4 + x4 / 65536
    let x6 := x5 + x5 / 4294967296
    x3 < 18446744073709551616 ∧ x4 < 18446744073709551616 ∧ x5 < 18446744073709551616 ∧ x6 < 9223372036854775808 ∧ x6 % 128 = l.sum := by
  obtain ⟨c0, c1, c2, c3, c4, c5, c6, c7, rfl⟩ := len8 l hl
  simp only [List.mem_cons, List.not_mem_nil, or_false, forall_eq_or_imp, forall_eq] at hb
  obtain ⟨q0, q1, q2, q3, q4, q5, q6, q7⟩ := hb
  have e4 : val8 [c0, c1, c2, c3, c4, c5, c6, c7] + val8 [c0, c1, c2, c3, c4, c5, c6, c7] / 256 = val8 [c0 + c1, c1 + c2, c2 + c3, c3 + c4, c4 + c5, c5 + c6, c6 + c7, c7] := by simp only [val8]; omega
  have e5 : val8 [c0 + c1, c1 + c2, c2 + c3, c3 + c4, c4 + c5, c5 + c6, c6 + c7, c7] + val8 [c0 + c1, c1 + c2, c2 + c3, c3 + c4, c4 + c5, c5 + c6, c6 + c7, c7] / 65536 = val8 [c0 + c1 + (c2 + c3), c1 + c2 + (c3 + c4), c2 + c3 + (c4 + c5), c3 + c4 + (c5 + c6), c4 + c5 + (c6 + c7), c5 + c6 + c7, c6 + c7, c7] := by simp only [val8]; omega
  have e6 : val8 [c0 + c1 + (c2 + c3), c1 + c2 + (c3 + c4), c2 + c3 + (c4 + c5), c3 + c4 + (c5 + c6), c4 + c5 + (c6 + c7), c5 + c6 + c7, c6 + c7, c7] / 4294967296 = val8 [c4 + c5 + (c6 + c7), c5 + c6 + c7, c6 + c7, c7] := by simp only [val8]; omega
  simp only
  rw [e4, e5, e6]
  refine ⟨?_, ?_, ?_, ?_, ?_⟩
  · simp only [val8]; omega
  · simp only [val8]; omega
  · simp only [val8]; omega
  · simp only [val8]; omega
  · simp only [val8, List.sum_cons, List.sum_nil]; omega
theorem zFo (x : Nat) (hx : x < 18446744073709551616) :
    let x1 := ((x / 2) &&& 6148914691236517205) + (x &&& 6148914691236517205)
    let x2 := ((x1 / 4) &&& 3689348814741910323) + (x1 &&& 3689348814741910323)
    let x3 := (x2 / 16 + x2) &&& 1085102592571150095
    let x4 := x3 + x3 / 256
    let x5 := x4 + x4 / 65536
    let x6 := x5 + x5 / 4294967296
    x1 < 18446744073709551616 ∧ x2 < 18446744073709551616 ∧ x2 / 16 + x2 < 18446744073709551616 ∧ x3 < 18446744073709551616 ∧ x4 < 18446744073709551616 ∧ x5 < 18446744073709551616 ∧ x6 < 9223372036854775808 ∧ x6 % 128 = pop x := by
  obtain ⟨bs, hl, hb, rfl⟩ : ∃ bs : List Nat, bs.length = 8 ∧ (∀ b ∈ bs, b < 256) ∧ x = val8 bs := by
    refine ⟨[x % 256, x / 256 % 256, x / 65536 % 256, x / 16777216 % 256, x / 4294967296 % 256, x / 1099511627776 % 256, x / 281474976710656 % 256, x / 72057594037927936 % 256], rfl, ?_, ?_⟩
    · intro b hb
      simp only [List.mem_cons, List.not_mem_nil, or_false] at hb
      omega
    · simp only [val8]; omega
  have m1 : val8 (List.replicate bs.length 85) = 6148914691236517205 := by rw [hl]; rfl
  have m2 : val8 (List.replicate (bs.map b1).length 51) = 3689348814741910323 := by rw [List.length_map, hl]; rfl
  have m3 : val8 (List.replicate ((bs.map b1).map b2).length 15) = 1085102592571150095 := by rw [List.length_map, List.length_map, hl]; rfl
  have h1 : ∀ b ∈ bs.map b1, b < 256 := by
    intro b hb'
    obtain ⟨a, ha, rfl⟩ := List.mem_map.1 hb'
    exact k1lt ⟨a, hb a ha⟩
  have h2 : ∀ b ∈ (bs.map b1).map b2, b < 256 ∧ b % 16 ≤ 4 ∧ b / 16 ≤ 4 := by
    intro b hb'
    obtain ⟨a', ha', rfl⟩ := List.mem_map.1 hb'
    obtain ⟨a, ha, rfl⟩ := List.mem_map.1 ha'
    exact k2lt ⟨a, hb a ha⟩
  have s1 := step1 bs hb
  have s2 := step2 (bs.map b1) h1
  have s3 := step3 ((bs.map b1).map b2) h2
  rw [m1] at s1
  rw [m2] at s2
  rw [m3] at s3
  have hp : pop (val8 bs) = ((((bs.map b1).map b2).map b3)).sum := by
    unfold pop
    have := zDG bs hb
    rw [hl, show 8 * 8 = 64 from rfl] at this
    rw [this, List.map_map, List.map_map]
    have e : bs.map (popN 8) = bs.map ((b3 ∘ b2) ∘ b1) := by
      apply List.map_congr_left
      intro a ha
      exact ((k3pop ⟨a, hb a ha⟩).1).symm
    rw [e]
  have h3 : ∀ b ∈ ((bs.map b1).map b2).map b3, b ≤ 8 := by
    intro b hb'
    obtain ⟨a'', ha'', rfl⟩ := List.mem_map.1 hb'
    obtain ⟨a', ha', rfl⟩ := List.mem_map.1 ha''
    obtain ⟨a, ha, rfl⟩ := List.mem_map.1 ha'
    have := k3pop ⟨a, hb a ha⟩
    simp only at this
    omega
  simp only
  rw [s1, s2, s3, hp]
  have L1 := zMA (bs.map b1) (by simp [hl]) h1
  have L2 := zLr ((bs.map b1).map b2) (by simp [hl]) h2
  have L3 := zJz (((bs.map b1).map b2).map b3) (by simp [hl]) h3
  exact ⟨L1, L2.2, L2.1, L3⟩
end

section
def bitW (ws : List Nat) (c : Nat) : Bool := (ws.getD (c / 64) 0).testBit (c % 64)
def colsTo (ws : List Nat) (n : Nat) : List Nat := (List.range n).filter (bitW ws)
def colsOf (ws : List Nat) : List Nat := colsTo ws (64 * ws.length)
def Word (ws : List Nat) : Prop := ∀ x ∈ ws, x < 18446744073709551616
theorem Word.getD {ws : List Nat} (h : Word ws) (i : Nat) : ws.getD i 0 < 18446744073709551616 := by
  by_cases hi : i < ws.length
  · rw [List.getD_eq_getElem?_getD, List.getElem?_eq_getElem hi]; exact h _ (List.getElem_mem hi)
  · rw [List.getD_eq_getElem?_getD, List.getElem?_eq_none (by omega)]; decide
theorem zBl (ws : List Nat) (c : Nat) (h : 64 * ws.length ≤ c) : bitW ws c = false := by
  unfold bitW
  rw [List.getD_eq_getElem?_getD, List.getElem?_eq_none (by omega)]
  simp
theorem zBv (ws : List Nat) (i b : Nat) (hb : b < 64) : bitW ws (i * 64 + b) = (ws.getD i 0).testBit b := by
  unfold bitW
  rw [show (i * 64 + b) / 64 = i by omega, show (i * 64 + b) % 64 = b by omega]
theorem zBU (ws : List Nat) (n : Nat) : colsTo ws (n + 1) = colsTo ws n ++ (if bitW ws n then [n] else []) := by
  unfold colsTo
  rw [List.range_succ, List.filter_append]
  by_cases h : bitW ws n <;> simp [h]
theorem zHu (ws : List Nat) (n : Nat) (h : bitW ws n = true) : colsTo ws (n + 1) = colsTo ws n ++ [n] := by rw [zBU, if_pos h]
theorem zDm (ws : List Nat) (n : Nat) (h : bitW ws n = false) : colsTo ws (n + 1) = colsTo ws n := by rw [zBU, h]; simp
theorem zBy (ws : List Nat) (a : Nat) : ∀ k, (∀ c, a ≤ c → c < a + k → bitW ws c = false) → colsTo ws (a + k) = colsTo ws a
  | 0, _ => rfl
  | k + 1, h => by rw [← Nat.add_assoc, zDm _ _ (h _ (by omega) (by omega))]; exact zBy ws a k fun c h1 h2 => h c h1 (by omega)
theorem zNh {ws : List Nat} {n c : Nat} : c ∈ colsTo ws n ↔ c < n ∧ bitW ws c = true := by
  unfold colsTo; rw [List.mem_filter, List.mem_range]
theorem zF8 (ws : List Nat) (i : Nat) : (colsTo ws (64 * (i + 1))).length = (colsTo ws (64 * i)).length + pop (ws.getD i 0) := by
  unfold colsTo pop
  rw [show 64 * (i + 1) = 64 * i + 64 by omega, List.range_add, List.filter_append, List.length_append, List.filter_map, List.length_map, ← zFT]
  congr 2
  apply List.filter_congr
  intro b hb
  rw [List.mem_range] at hb
  have := zBv ws i b hb
  rw [Nat.mul_comm i 64] at this
  exact this
theorem zBo (ws : List Nat) (n : Nat) : (colsTo ws n).length ≤ n := by
  unfold colsTo
  exact Nat.le_trans (List.length_filter_le _ _) (by simp)
theorem zBn (ws : List Nat) : (colsOf ws).length ≤ 64 * ws.length := zBo _ _
theorem zBj (x : Nat) (h0 : x ≠ 0) (hx : x < 18446744073709551616) : Lib.ctz 64 x < 64 ∧ x.testBit (Lib.ctz 64 x) = true ∧ ∀ j, j < Lib.ctz 64 x → x.testBit j = false := by
  unfold Lib.ctz
  rw [if_neg h0]
  obtain ⟨m, hm, hk⟩ := Lib.ctzFrom_spec 64 x (by omega) hx
  generalize Lib.ctzFrom 64 x = k at *
  refine ⟨hk, ?_, fun j hj => ?_⟩
  · have e := Nat.testBit_two_pow_mul (a := 2 * m + 1) (i := k) (j := k)
    rw [← hm] at e
    rw [e]; simp
  · have e := Nat.testBit_two_pow_mul (a := 2 * m + 1) (i := k) (j := j)
    rw [← hm] at e
    rw [e]
    have : ¬ k ≤ j := by omega
    simp [this]
def xorW (az bs : List Nat) : List Nat := List.zipWith (· ^^^ ·) az bs
theorem zAm {az bs : List Nat} (h : az.length = bs.length) : (xorW az bs).length = az.length := by simp [xorW, h]
theorem zAu {az bs : List Nat} (h : az.length = bs.length) (i : Nat) : (xorW az bs).getD i 0 = az.getD i 0 ^^^ bs.getD i 0 := by
  simp only [xorW, List.getD_eq_getElem?_getD]
  by_cases hi : i < az.length
  · simp [List.getElem?_zipWith, hi, h ▸ hi]
  · simp [List.getElem?_zipWith, List.getElem?_eq_none (show az.length ≤ i by omega), List.getElem?_eq_none (show bs.length ≤ i by omega)]
theorem zGJ {az bs : List Nat} (h : az.length = bs.length) (c : Nat) : bitW (xorW az bs) c = (bitW az c ^^ bitW bs c) := by
  unfold bitW; rw [zAu h, Nat.testBit_xor]
theorem Word.xor {az bs : List Nat} (ha : Word az) (hb : Word bs) : Word (xorW az bs) := by
  intro x hx
  obtain ⟨i, hi, rfl⟩ := List.getElem_of_mem hx
  simp only [xorW, List.getElem_zipWith]
  exact Nat.xor_lt_two_pow (n := 64) (ha _ (List.getElem_mem _)) (hb _ (List.getElem_mem _))
def Packs (ws : List Nat) (k : Nat) (p : Nat → Bool) : Prop := ws.length = k ∧ Word ws ∧ ∀ c, c < 64 * k → bitW ws c = p c
theorem Packs.unique {ws vs : List Nat} {k : Nat} {p : Nat → Bool} (h1 : Packs ws k p) (h2 : Packs vs k p) : ws = vs := by
  obtain ⟨l1, w1, b1⟩ := h1
  obtain ⟨l2, w2, b2⟩ := h2
  apply List.ext_getElem (by omega)
  intro i hi1 hi2
  have g1 : ws.getD i 0 = ws[i] := by simp [List.getD_eq_getElem?_getD, hi1]
  have g2 : vs.getD i 0 = vs[i] := by simp [List.getD_eq_getElem?_getD, hi2]
  apply Nat.eq_of_testBit_eq
  intro b
  by_cases hb : b < 64
  · have a1 := zBv ws i b hb
    have a2 := zBv vs i b hb
    rw [g1] at a1
    rw [g2] at a2
    rw [← a1, ← a2, b1 _ (by omega), b2 _ (by omega)]
  · rw [Nat.testBit_lt_two_pow (Nat.lt_of_lt_of_le (w1 _ (List.getElem_mem hi1)) (Nat.pow_le_pow_right (n := 2) (by decide) (show 64 ≤ b by omega))),
      Nat.testBit_lt_two_pow (Nat.lt_of_lt_of_le (w2 _ (List.getElem_mem hi2)) (Nat.pow_le_pow_right (n := 2) (by decide) (show 64 ≤ b by omega)))]
theorem Packs.zero (k : Nat) : Packs (List.replicate k 0) k (fun _ => false) := by
  refine ⟨by simp, fun x hx => by rw [List.mem_replicate] at hx; omega, fun c _ => ?_⟩
  unfold bitW
  have : (List.replicate k 0).getD (c / 64) 0 = 0 := by
    rw [List.getD_eq_getElem?_getD, List.getElem?_replicate]
    split <;> rfl
  rw [this]; simp
theorem Packs.set {ws : List Nat} {k : Nat} {p : Nat → Bool} (h : Packs ws k p) (c : Nat) (hc : c < 64 * k) :
    Packs (ws.set (c / 64) (ws.getD (c / 64) 0 ||| 2 ^ (c % 64))) k (fun d => p d || d == c) := by
  obtain ⟨l, w, b⟩ := h
  have hp : 2 ^ (c % 64) < 18446744073709551616 := by
    have : 2 ^ (c % 64) ≤ 2 ^ 63 := Nat.pow_le_pow_right (by decide) (by omega)
    omega
  refine ⟨by simpa using l, fun x hx => ?_, fun d hd => ?_⟩
  · rcases List.mem_or_eq_of_mem_set hx with hx | rfl
    · exact w x hx
    · exact Nat.or_lt_two_pow (n := 64) (w.getD _) hp
  · have hbd := b d hd
    unfold bitW at hbd ⊢
    simp only [List.getD_eq_getElem?_getD, List.getElem?_set] at hbd ⊢
    by_cases hq : c / 64 = d / 64
    · rw [if_pos hq, if_pos (by omega)]
      simp only [Option.getD_some, Nat.testBit_or, Nat.testBit_two_pow]
      rw [hq, hbd]
      by_cases he : d = c
      · subst he; simp
      · have : ¬ c % 64 = d % 64 := by omega
        simp [this, he]
    · rw [if_neg hq, hbd]
      have : ¬ d = c := by intro e; subst e; exact hq rfl
      simp [this]
theorem Packs.congr {ws : List Nat} {k : Nat} {p q : Nat → Bool} (h : Packs ws k p) (e : ∀ c, c < 64 * k → p c = q c) : Packs ws k q :=
  ⟨h.1, h.2.1, fun c hc => (h.2.2 c hc).trans (e c hc)⟩
def bitsDown (p : Nat → Bool) (i : Nat) : Nat → Nat
  | 0 => 0
  | n + 1 => 2 * bitsDown p i n + (p (64 * i + (63 - n))).toNat
theorem zBg (p : Nat → Bool) (i : Nat) : ∀ n, n ≤ 64 → bitsDown p i n < 2 ^ n ∧ ∀ b, b < n → (bitsDown p i n).testBit b = p (64 * i + (64 - n + b))
  | 0, _ => ⟨by simp [bitsDown], fun b hb => by omega⟩
  | n + 1, hn => by
    obtain ⟨h1, h2⟩ := zBg p i n (by omega)
    have ht : (p (64 * i + (63 - n))).toNat ≤ 1 := Bool.toNat_le _
    refine ⟨by rw [Nat.pow_succ, bitsDown]; omega, fun b hb => ?_⟩
    rw [bitsDown]
    cases b with
    | zero =>
      rw [Nat.testBit_zero, show 64 - (n + 1) + 0 = 63 - n by omega]
      cases p (64 * i + (63 - n)) <;> simp <;> omega
    | succ b =>
      rw [Nat.testBit_succ, show (2 * bitsDown p i n + (p (64 * i + (63 - n))).toNat) / 2 = bitsDown p i n by omega, h2 b (by omega)]
      congr 1
      omega
theorem Packs.map (p : Nat → Bool) (k : Nat) : Packs ((List.range k).map fun i => bitsDown p i 64) k p := by
  refine ⟨by simp, fun x hx => ?_, fun c hc => ?_⟩
  · obtain ⟨i, _, rfl⟩ := List.mem_map.1 hx
    exact (zBg p i 64 (Nat.le_refl _)).1
  · unfold bitW
    have : ((List.range k).map fun i => bitsDown p i 64).getD (c / 64) 0 = bitsDown p (c / 64) 64 := by
      rw [List.getD_eq_getElem?_getD, List.getElem?_map, List.getElem?_range (by omega)]; rfl
    rw [this, (zBg p (c / 64) 64 (Nat.le_refl _)).2 _ (by omega)]
    congr 1
    omega
end

section
open Go.RowKit Go.Extern.Stop Go.Stop Go.Extern
def intV (n : Int) : Value := .int .i64 n
def wordV (x : Nat) : Value := .int .u64 (x : Int)
def ListAt {α : Type} (f : α → Value) (w : World) (v : Value) (l : List α) : Prop :=
  ∃ a cap, v = .slice a l.length cap ∧ l.length ≤ cap ∧ cap ≤ maxLen ∧ (0 < l.length → ∃ b off, a = some ⟨b, off, none⟩ ∧ ∀ j (h : j < l.length), w.cell? ⟨b, off + j, none⟩ = some (f l[j]))
theorem ListAt.mono {α : Type} {f : α → Value} {w w' : World} {v : Value} {l : List α} (h : ListAt f w v l) (hb : Below w.heap.size w w') : ListAt f w' v l := by
  obtain ⟨a, cap, rfl, hc, hm, h⟩ := h
  refine ⟨a, cap, rfl, hc, hm, fun hp => ?_⟩
  obtain ⟨b, off, rfl, hcell⟩ := h hp
  refine ⟨b, off, rfl, fun j hj => ?_⟩
  have hx := hcell j hj
  rw [hb.cell (p := ⟨b, off + j, none⟩) (World.block_lt_of_cell? w _ hx)]
  exact hx
theorem ListAt.len {α : Type} {f : α → Value} {w : World} {v : Value} {l : List α} (h : ListAt f w v l) : l.length ≤ 9223372036854775807 := by
  obtain ⟨a, cap, rfl, hc, hm, _⟩ := h
  unfold maxLen at hm
  omega
theorem ListAt.nil {α : Type} (f : α → Value) (w : World) : ListAt f w (.slice none 0 0) [] := ⟨none, 0, rfl, Nat.le_refl _, Nat.zero_le _, fun h => by simp at h⟩
theorem ListAt.of_owns {α : Type} {f : α → Value} {w : World} {base n : Nat} {e : TypeId} {v : Value} {l : List α} (h : w.ownsRow base e 1 v n (l.map f)) : ListAt f w v l := by
  have hl := h.1
  simp at hl
  subst hl
  rcases h.2 with ⟨rfl, h0⟩ | ⟨g, cap, cur, rfl, hbg, hh, hc, hm, hs, htk⟩
  · exact ⟨none, 0, by rw [h0], by omega, Nat.zero_le _, fun hp => by omega⟩
  · refine ⟨_, _, rfl, hc, hm, fun hp => ⟨g, 0, rfl, fun j hj => ?_⟩⟩
    rw [World.ownsRow.cellAt h (0 + j) (by omega)]
    simp [hj]
theorem zAh {w w' : World} {base : Nat} {e : TypeId} {size : Nat} {v : Value} {n : Nat} {xs : List Value} (h : w.ownsRow base e size v n xs) (hb : Below w.heap.size w w') : w'.ownsRow base e size v n xs := by
  refine ⟨h.1, ?_⟩
  rcases h.2 with hn | ⟨g, cap, cur, rfl, hbg, hgg, rest⟩
  · exact .inl hn
  · exact .inr ⟨g, cap, cur, rfl, hbg, by rw [hb.block g (Array.getElem?_eq_some_iff.1 hgg).1]; exact hgg, rest⟩
theorem zGY : (Tryz.prog.info? 258).map (fun i => (i.zero, i.size, i.bytes)) = some (some (.int .u64 0), 1, 8) := by kernel_rfl
theorem zAR : (Tryz.prog.info? 3).map (fun i => (i.zero, i.size, i.bytes)) = some (some (.int .i64 0), 1, 8) := by kernel_rfl
end

section
open Go.RowKit Go.Extern.Stop Go.Stop Go.Extern
theorem zLA {α : Type} {f : α → Value} {w : World} {B q : Nat} {e : TypeId} {v : Value} {l : List α} {x : α} (hq : l.length = q) (h : w.ownsRow B e 1 v (q + 1) (l.map f ++ [f x])) :
    w.ownsRow B e 1 v (l ++ [x]).length ((l ++ [x]).map f) := by
  rw [List.map_append, List.length_append]
  subst hq
  exact h
theorem zDe {B : Nat} {a w : World} (h : Below B a w) (n : Nat) : Below B a (w.drewN n) := h.trans ⟨rfl, rfl, rfl, Nat.le_refl _, fun _ _ => rfl⟩
abbrev I64 (n : Int) : Prop := -9223372036854775808 ≤ n ∧ n ≤ 9223372036854775807
abbrev nilS : Value := .slice none 0 0
def MatAt {α : Type} (f : α → Value) (w : World) (v : Value) (L : List (List α)) : Prop :=
  ∃ vs : List Value, ListAt id w v vs ∧ vs.length = L.length ∧ ∀ i, ListAt f w (vs.getD i nilS) (L.getD i [])
section
variable {α : Type} {f : α → Value} {w w' : World} {v : Value} {L : List (List α)}
theorem MatAt.mono (h : MatAt f w v L) (hb : Below w.heap.size w w') : MatAt f w' v L := by
  obtain ⟨vs, h1, h2, h3⟩ := h
  exact ⟨vs, h1.mono hb, h2, fun i => (h3 i).mono hb⟩
theorem MatAt.len (h : MatAt f w v L) : L.length ≤ 9223372036854775807 := by
  obtain ⟨vs, h1, h2, _⟩ := h
  have := h1.len
  omega
theorem MatAt.opens (h : MatAt f w v L) : ∃ a cap, v = .slice a L.length cap ∧ L.length ≤ cap ∧ cap ≤ maxLen ∧
    (0 < L.length → ∃ b off, a = some ⟨b, off, none⟩ ∧ ∀ j, j < L.length → ∃ x, w.cell? ⟨b, off + j, none⟩ = some x ∧ ListAt f w x (L.getD j [])) := by
  obtain ⟨vs, ⟨a, cap, rfl, h1, h2, h3⟩, h4, h5⟩ := h
  refine ⟨a, cap, by rw [h4], by omega, h2, fun hp => ?_⟩
  obtain ⟨b, off, rfl, hc⟩ := h3 (by omega)
  refine ⟨b, off, rfl, fun j hj => ⟨vs.getD j nilS, ?_, h5 j⟩⟩
  rw [hc j (by omega)]
  have : j < vs.length := by omega
  simp [this]
theorem MatAt.nil (f : α → Value) (w : World) : MatAt f w nilS [] := ⟨[], ListAt.nil _ _, rfl, fun i => by simpa using ListAt.nil f w⟩
def ElAt (f : α → Value) (te : TypeId) (base : Nat) (w : World) (x : Value) (r : List α) : Prop :=
  ListAt f w x r ∧ (0 < r.length → ∀ b, x.ownBlock = some b → b < base ∨ ∃ cur, w.heap[b]? = some (.cells cur te (0, 0)))
variable {te e : TypeId} {base n : Nat} {x : Value} {r : List α} {vs : List Value}
theorem ListAt.block (h : ListAt f w x r) (hp : 0 < r.length) : ∀ b, x.ownBlock = some b → b < w.heap.size := by
  obtain ⟨a, cap, rfl, _, _, hcell⟩ := h
  obtain ⟨b', off, rfl, hc⟩ := hcell hp
  intro b hb
  have : b' = b := by simpa [Value.ownBlock] using hb
  subst this
  exact World.block_lt_of_cell? w _ (hc 0 hp)
theorem ElAt.old (h : ListAt f w x r) (hb : Below w.heap.size w w') : ElAt f te w.heap.size w' x r := ⟨h.mono hb, fun hp b hx => .inl (h.block hp b hx)⟩
theorem ElAt.own {base' : Nat} (h : w.ownsRow base' te 1 x n (r.map f)) : ElAt f te base w x r := by
  refine ⟨ListAt.of_owns h, fun _ b hx => ?_⟩
  rcases h.2 with ⟨rfl, _⟩ | ⟨g, cap, cur, rfl, _, hg, _⟩
  · simp [Value.ownBlock] at hx
  · have : g = b := by simpa [Value.ownBlock] using hx
    subst this
    exact .inr ⟨cur, hg⟩
theorem ElAt.mono (h : ElAt f te base w x r) (hb : Below w.heap.size w w') : ElAt f te base w' x r := by
  refine ⟨h.1.mono hb, fun hp b hx => ?_⟩
  rcases h.2 hp b hx with h1 | ⟨cur, h1⟩
  · exact .inl h1
  · exact .inr ⟨cur, by rw [hb.block b (h.1.block hp b hx)]; exact h1⟩
theorem ElAt.nil (f : α → Value) (te : TypeId) (base : Nat) (w : World) : ElAt f te base w nilS [] := ⟨ListAt.nil f w, fun h => by simp at h⟩
theorem ElAt.grown (h : ElAt f te base w x r) (hne : e ≠ te) (hown : w.ownsRow base e 1 v n vs) (hg : w.grownBy w' v.ownBlock) : ElAt f te base w' x r := by
  by_cases hp : 0 < r.length
  · have hnb : ∀ b, x.ownBlock = some b → w'.heap[b]? = w.heap[b]? := fun b hx => by
      refine hg.block b (h.1.block hp b hx) fun hv => ?_
      rcases hown.2 with ⟨rfl, _⟩ | ⟨g, cap, cur, rfl, hbg, hgg, _⟩
      · simp [Value.ownBlock] at hv
      · have : b = g := by simpa [Value.ownBlock] using hv
        subst this
        rcases h.2 hp b hx with h1 | ⟨cur', h1⟩
        · omega
        · rw [h1] at hgg
          cases hgg
          exact hne rfl
    obtain ⟨⟨a, cap, rfl, h1, h2, h3⟩, h4⟩ := h
    obtain ⟨b, off, rfl, hc⟩ := h3 hp
    have hnb' := hnb b rfl
    refine ⟨⟨_, cap, rfl, h1, h2, fun _ => ⟨b, off, rfl, fun j hj => ?_⟩⟩, fun _ b' hb' => ?_⟩
    · rw [World.cell?_of_block (w := w) (a := ⟨b, off + j, none⟩) hnb']; exact hc j hj
    · have : b = b' := by simpa [Value.ownBlock] using hb'
      subst this
      rw [hnb']
      exact h4 hp b rfl
  · obtain ⟨⟨a, cap, rfl, h1, h2, _⟩, _⟩ := h
    exact ⟨⟨a, cap, rfl, h1, h2, fun hp' => absurd hp' hp⟩, fun hp' => absurd hp' hp⟩
def MatOwn (f : α → Value) (te : TypeId) (base : Nat) (e : TypeId) (w : World) (v : Value) (L : List (List α)) : Prop :=
  ∃ vs : List Value, w.ownsRow base e 1 v L.length vs ∧ ∀ i, ElAt f te base w (vs.getD i nilS) (L.getD i [])
theorem MatOwn.at (h : MatOwn f te base e w v L) : MatAt f w v L := by
  obtain ⟨vs, h1, h2⟩ := h
  have hl : vs.length = L.length := by have := h1.1; omega
  exact ⟨vs, ListAt.of_owns (n := L.length) (by rw [List.map_id]; exact h1), hl, fun i => (h2 i).1⟩
theorem zB4 {β : Type} (l : List β) (y d : β) (i : Nat) : (l ++ [y]).getD i d = if i < l.length then l.getD i d else if i = l.length then y else d := by
  simp only [List.getD_eq_getElem?_getD]
  by_cases h : i < l.length
  · rw [if_pos h, List.getElem?_append_left h]
  · rw [if_neg h, List.getElem?_append_right (by omega)]
    by_cases h2 : i = l.length
    · rw [if_pos h2]; subst h2; simp
    · rw [if_neg h2, List.getElem?_eq_none (by simp; omega)]; rfl
theorem MatOwn.snoc {v' : Value} (hne : e ≠ te) (hown : w.ownsRow base e 1 v L.length vs) (hel : ∀ i, ElAt f te base w (vs.getD i nilS) (L.getD i [])) (hx : ElAt f te base w x r)
    (hown' : w'.ownsRow base e 1 v' (L.length + 1) (vs ++ [x])) (hg : w.grownBy w' v.ownBlock) : MatOwn f te base e w' v' (L ++ [r]) := by
  have hl : vs.length = L.length := by have := hown.1; omega
  refine ⟨vs ++ [x], by rw [List.length_append]; exact hown', fun i => ?_⟩
  rw [zB4, zB4, hl]
  by_cases h : i < L.length
  · rw [if_pos h, if_pos h]; exact (hel i).grown hne hown hg
  · rw [if_neg h, if_neg h]
    by_cases h2 : i = L.length
    · rw [if_pos h2, if_pos h2]; exact hx.grown hne hown hg
    · rw [if_neg h2, if_neg h2]; exact ElAt.nil f te base _
end
def fillTo {α : Type} (g : Nat → α) (z : α) (n k : Nat) : List α := (List.range n).map fun c => if c < k then g c else z
theorem zAI {α : Type} (g : Nat → α) (z : α) (n k : Nat) : (fillTo g z n k).length = n := by simp [fillTo]
theorem zBI {α : Type} (g : Nat → α) (z : α) (n : Nat) : fillTo g z n 0 = List.replicate n z := by
  unfold fillTo
  apply List.ext_getElem
  · simp
  · intro i h1 h2; simp
theorem zCm {α : Type} (g : Nat → α) (z : α) (n k : Nat) : (fillTo g z n k).set k (g k) = fillTo g z n (k + 1) := by
  unfold fillTo
  apply List.ext_getElem
  · simp
  · intro i h1 h2
    simp only [List.getElem_set, List.getElem_map, List.getElem_range]
    by_cases e : k = i
    · subst e; simp
    · rw [if_neg e]
      by_cases hi : i < k
      · rw [if_pos hi, if_pos (by omega)]
      · rw [if_neg hi, if_neg (by omega)]
theorem zCu {α : Type} (g : Nat → α) (z : α) (n : Nat) : fillTo g z n n = (List.range n).map g := by
  unfold fillTo
  apply List.map_congr_left
  intro c hc
  rw [if_pos (List.mem_range.1 hc)]
theorem zAd {w : World} {b b' : Nat} {e : TypeId} {size n : Nat} {v : Value} {xs : List Value} (h : w.ownsRow b e size v n xs) (hb : b' ≤ b) : w.ownsRow b' e size v n xs := by
  refine ⟨h.1, ?_⟩
  rcases h.2 with h1 | ⟨g, cap, cur, h1, h2, h3⟩
  · exact .inl h1
  · exact .inr ⟨g, cap, cur, h1, by omega, h3⟩
theorem zAW {P : Program} {w : World} (base : Nat) (t ty e : TypeId) (i : TypeInfo) (size : Nat) (ht : P.underlying t = some (.slice e)) (hi : P.info? e = some i)
    (v : Value) (n c : Nat) (xs : List Value) (hown : w.ownsRow base e size v n xs) :
    (Builtin.append_ #[t, t] ty #[v, .slice none 0 c]).run P w = .ok v w := by
  rcases hown.2 with ⟨rfl, rfl⟩ | ⟨g, cap, cur, rfl, _, _, hnc, _⟩
  · simp [Builtin.append_, run_underlying ht, sizeOf, typeInfo, hi, Builtin.lenOf, Builtin.firstCells]
  · simp [Builtin.append_, run_underlying ht, sizeOf, typeInfo, hi, Builtin.lenOf, Builtin.firstCells, hnc, storeCells]
theorem zAB {P : Program} {α : Type} {f : α → Value} (w : World) {ops : Array Oper} {rest : List Oper} {o : Oper} {a : Act} {Q : Exit → Act → World → Prop} (hgd : o.guard = none) (s x : Operand) (t : TypeId)
    (ho : o.op = .call { callee := .builtin .append, args := #[s, x], argTypes := #[t, t] })
    (base : Nat) (e : TypeId) (i : TypeInfo) (z : Value) (bytes : Nat) (ht : P.underlying t = some (.slice e)) (hi : P.info? e = some i) (hz : i.zero = some z)
    (hsize : i.size = 1) (hby : i.bytes = bytes) (hzs : z.cells.size = 1)
    (v : Value) (n : Nat) (xs : List Value) (hs : a.eval s = v) (hown : w.ownsRow base e 1 v n xs)
    (src : Value) (l : List α) (hx : a.eval x = src) (hl : ListAt f w src l) (h1 : ∀ y ∈ l, (f y).oneCell' = true)
    (h63 : n + l.length ≤ maxLen) (hbytes : (n + l.length) * bytes ≤ 140737488355328) (hbase : base ≤ w.heap.size)
    (h : ∀ v' w', w'.ownsRow base e 1 v' (n + l.length) (xs ++ l.map f) → w.grownBy w' v.ownBlock → wpList P ops Q rest (a.put o.dst v') w') : wpList P ops Q (o :: rest) a w := by
  obtain ⟨ad, cap, rfl, hc, hm, hcell⟩ := hl
  by_cases hp : 0 < l.length
  · obtain ⟨b, off, rfl, hcc⟩ := hcell hp
    refine wpList_append_own w hgd s x t ho base e i z 1 bytes ht hi hz hsize hby hzs (by decide) v n xs hs hown ⟨b, off, none⟩ l.length cap (l.map f) hx (by simp) ?_ ?_ h63 hbytes hbase fun v' w' h2 h3 _ => h v' w' h2 h3
    · intro j u hu
      have hj : j < l.length := by have := (List.getElem?_eq_some_iff.1 hu).1; simpa using this
      rw [Go.WideShapes.add_plain, hcc j hj]
      simp [hj] at hu
      rw [hu]
    · intro u hu
      obtain ⟨y, hy, rfl⟩ := List.mem_map.1 hu
      exact h1 y hy
  · have hl0 : l = [] := List.eq_nil_of_length_eq_zero (by omega)
    subst hl0
    cases ad with
    | none =>
      refine wpList_plain hgd fun K hK => ?_
      have hrun := zAW (P := P) (w := w) base t o.type e i 1 ht hi v n cap xs hown
      unfold Oper.wp
      simp [execOp, ho, resolve, invoke, builtin, hs, hx, hrun, Result.andThen]
      exact hK _ _ (h v w (by simpa using hown) (World.grownBy.refl _ _))
    | some ad =>
      exact wpList_append_own w hgd s x t ho base e i z 1 bytes ht hi hz hsize hby hzs (by decide) v n xs hs hown ad 0 cap [] hx (by simp) (fun j u hu => by simp at hu) (fun u hu => by simp at hu) h63 hbytes hbase fun v' w' h2 h3 _ => h v' w' (by simpa using h2) h3
theorem zAe {w : World} {base n : Nat} {e : TypeId} {v : Value} {xs : List Value} (h : w.ownsRow base e 1 v n xs) :
    ∃ ao cap, v = .slice ao n cap ∧ n ≤ cap ∧ (0 < n → ∃ g, ao = some ⟨g, 0, none⟩) := by
  rcases h.2 with ⟨rfl, rfl⟩ | ⟨g, cap, cur, rfl, hb, hg, hc, _⟩
  · exact ⟨none, 0, rfl, Nat.le_refl _, fun h => by omega⟩
  · exact ⟨_, cap, rfl, hc, fun _ => ⟨g, rfl⟩⟩
theorem zDf {a b c : World} {row : Option Nat} (h : a.grownBy b row) (k : b.grownBy c row) : a.grownBy c row :=
  ⟨k.os.trans h.os, k.tape.trans h.tape, k.output.trans h.output, Nat.le_trans h.size k.size, fun j hj hr => (k.block j (Nat.lt_of_lt_of_le hj h.size) hr).trans (h.block j hj hr)⟩
section
variable {α : Type} {f : α → Value} {w w2 : World} {v v2 x : Value} {L : List (List α)} {te e : TypeId} {base : Nat} {r : List α} {vs : List Value}
theorem MatOwn.app {o : Obj} (hne : e ≠ te) (hown : w.ownsRow base e 1 v L.length vs) (hel : ∀ i, ElAt f te base w (vs.getD i nilS) (L.getD i [])) (hx : ElAt f te base w x r)
    (hown' : w2.ownsRow base e 1 v2 (L.length + 1) (vs ++ [x])) (hg : (w.alloc o).grownBy w2 v.ownBlock) : MatOwn f te base e w2 v2 (L ++ [r]) :=
  have hb : Below w.heap.size w (w.alloc o) := (Below.refl _ _).alloc (Nat.le_refl _) _
  MatOwn.snoc hne (hown.alloc o) (fun i => (hel i).mono hb) (hx.mono hb) hown' hg
end
theorem zAU {β : Type} (l : List β) (i k : Nat) (y d : β) (hi : i < l.length) : (l.set i y).getD k d = if k = i then y else l.getD k d := by
  simp only [List.getD_eq_getElem?_getD, List.getElem?_set]
  by_cases e : k = i
  · subst e; simp [hi]
  · rw [if_neg e, if_neg (fun h => e h.symm)]
end
end Go.Proofs.YtkfimdpcadbcpaaGreatDoor
