import Derived.Laws.BytesArg
import Derived.Test.YtkfimdpcadbcpaaGreatDoorA01
import Derived.Laws.Bits128
import Derived.BigQuiet
import Derived.WalkSmall
import Derived.Deep.QuietTactic
import Derived.Laws.ShiftsVar
import Derived.Laws.CopyOwn
import Derived.Deep.Cut
import Derived.OwnWalk
import Derived.WalkSpells
import Derived.WalkLawsBesides
import Derived.Deep.LoopGhost
import Derived.Deep.RegionHeld
set_option linter.unusedSimpArgs false
set_option linter.unusedVariables false
set_option maxRecDepth 1000000
set_option maxHeartbeats 8000000
namespace Go.Proofs.YtkfimdpcadbcpaaGreatDoor
section
open Go.RowKit Go.Extern.Stop Go.Stop Go.Extern
def byteV (x : Nat) : Value := .int .u8 (x : Int)
def Octets (l : List Nat) : Prop := ∀ x ∈ l, x < 256
theorem zAY : (Tryz.prog.info? 5).map (fun i => (i.zero, i.size, i.bytes)) = some (some (.int .u8 0), 1, 1) := by kernel_rfl
theorem zB5 : (Tryz.prog.info? 31).map (fun i => (i.zero, i.size, i.bytes)) = some (some (.slice none 0 0), 1, 24) := by kernel_rfl
theorem zBu (a b : Nat) (ha : a < 256) (hb : b < 256) : bits .xor .u8 (a : Int) (b : Int) = ((a ^^^ b : Nat) : Int) := by
  have hx : a ^^^ b < 2 ^ 8 := Nat.xor_lt_two_pow (by omega) (by omega)
  have h1 : (BitVec.ofInt 8 (a : Int)).toNat = a := by
    rw [BitVec.ofInt_natCast, BitVec.toNat_ofNat]; exact Nat.mod_eq_of_lt (by omega)
  have h2 : (BitVec.ofInt 8 (b : Int)).toNat = b := by
    rw [BitVec.ofInt_natCast, BitVec.toNat_ofNat]; exact Nat.mod_eq_of_lt (by omega)
  show IntKind.u8.wrap ((BitVec.ofInt 8 (a : Int) ^^^ BitVec.ofInt 8 (b : Int)).toNat : Int) = _
  rw [BitVec.toNat_xor, h1, h2, IntKind.wrap_u8]
  omega
theorem Octets.getD {l : List Nat} (h : Octets l) (i : Nat) : l.getD i 0 < 256 := by
  by_cases hi : i < l.length
  · rw [List.getD_eq_getElem?_getD, List.getElem?_eq_getElem hi]; exact h _ (List.getElem_mem hi)
  · rw [List.getD_eq_getElem?_getD, List.getElem?_eq_none (by omega)]; decide
theorem Octets.set {l : List Nat} (h : Octets l) (k x : Nat) (hx : x < 256) : Octets (l.set k x) := by
  intro y hy
  rcases List.mem_or_eq_of_mem_set hy with hy | rfl
  · exact h y hy
  · exact hx
theorem Octets.replicate (n : Nat) : Octets (List.replicate n 0) := fun x hx => by have := (List.mem_replicate.1 hx).2; omega
theorem zAt {L : List (List Nat)} {k : Nat} (h : k < L.length) : L.getD k [] ∈ L := by
  rw [List.getD_eq_getElem?_getD, List.getElem?_eq_getElem h]; exact List.getElem_mem h
theorem zAT {a b : List Nat} (hl : a.length = b.length) (h : ∀ j, j < a.length → a.getD j 0 = b.getD j 0) : a = b := by
  apply List.ext_getElem hl
  intro j h1 h2
  have := h j h1
  simpa [List.getD_eq_getElem?_getD, h1, h2] using this
def colX (L : List (List Nat)) (j : Nat) : Nat := L.foldl (fun acc r => acc ^^^ r.getD j 0) 0
theorem zDc (j : Nat) : ∀ (L : List (List Nat)) (a : Nat), L.foldl (fun acc r => acc ^^^ r.getD j 0) a = a ^^^ colX L j
  | [], a => by simp [colX]
  | r :: L, a => by
    unfold colX
    rw [List.foldl_cons, List.foldl_cons, zDc j L, zDc j L (0 ^^^ r.getD j 0), Nat.zero_xor, Nat.xor_assoc]
theorem zCL (A B : List (List Nat)) (j : Nat) : colX (A ++ B) j = colX A j ^^^ colX B j := by
  rw [colX, List.foldl_append, zDc]; rfl
theorem zDZ (r : List Nat) (j : Nat) : colX [r] j = r.getD j 0 := by simp [colX]
theorem zHc (j : Nat) : colX [] j = 0 := rfl
theorem zMI {L : List (List Nat)} (h : ∀ r ∈ L, Octets r) (j : Nat) : colX L j < 256 := by
  induction L with
  | nil => rw [zHc]; decide
  | cons r L ih =>
    rw [show r :: L = [r] ++ L from rfl, zCL, zDZ]
    exact Nat.xor_lt_two_pow (n := 8) ((h r (by simp)).getD j) (ih fun s hs => h s (List.mem_cons_of_mem _ hs))
def sumS (n : Nat) (L : List (List Nat)) : List Nat := (List.range n).map (colX L)
theorem zAr (n : Nat) (L : List (List Nat)) : (sumS n L).length = n := by simp [sumS]
theorem zCg {n : Nat} {L : List (List Nat)} {j : Nat} (h : j < n) : (sumS n L).getD j 0 = colX L j := by simp [sumS, List.getD_eq_getElem?_getD, h]
theorem zG4 (n : Nat) : sumS n [] = List.replicate n 0 := by
  apply zAT (by simp [sumS])
  intro j hj
  have hj' : j < n := by simpa [sumS] using hj
  rw [zCg hj']
  simp [zHc, List.getD_eq_getElem?_getD, hj']
theorem zBT {L : List (List Nat)} (h : ∀ r ∈ L, Octets r) (n : Nat) : Octets (sumS n L) := by
  intro x hx
  obtain ⟨j, _, rfl⟩ := List.mem_map.1 hx
  exact zMI h j
theorem zLq {r : List Nat} {n : Nat} (h : r.length = n) : sumS n [r] = r := by
  apply zAT (by rw [zAr, h])
  intro j hj
  rw [zAr] at hj
  rw [zCg hj, zDZ]
theorem zFf {n : Nat} {L : List (List Nat)} {r : List Nat} (h : r.length = n) : sumS n (L ++ [r]) = xorW (sumS n L) r := by
  have hl : (sumS n L).length = r.length := by rw [zAr, h]
  apply zAT (by rw [zAr, zAm hl, zAr])
  intro j hj
  rw [zAr] at hj
  rw [zCg hj, zCL, zDZ, zAu hl, zCg hj]
def checkS (L : List (List Nat)) (n : Int) : Int := if n < 1 ∨ 64 < n then 1 else if L.all (fun r => decide ((r.length : Int) = n)) then 0 else 2
theorem zCR {L : List (List Nat)} {m : Nat} (h1 : 1 ≤ m) (h2 : m ≤ 64) (h : ∀ r ∈ L, r.length = m) : checkS L (m : Int) = 0 := by
  unfold checkS
  rw [if_neg (by omega), if_pos]
  rw [List.all_eq_true]
  intro r hr
  have := h r hr
  exact decide_eq_true (by omega)
def pickTo (ws : List Nat) (L : List (List Nat)) (n : Nat) : List (List Nat) := (colsTo ws n).map fun c => L.getD c []
theorem zC9 {ws : List Nat} {L : List (List Nat)} {k : Nat} (h : bitW ws k = true) : pickTo ws L (k + 1) = pickTo ws L k ++ [L.getD k []] := by
  unfold pickTo; rw [zHu ws k h, List.map_append]; rfl
theorem zCp {ws : List Nat} {L : List (List Nat)} {k : Nat} (h : bitW ws k = false) : pickTo ws L (k + 1) = pickTo ws L k := by
  unfold pickTo; rw [zDm ws k h]
theorem zBf (ws : List Nat) (L : List (List Nat)) (n : Nat) : (pickTo ws L n).length = (colsTo ws n).length := by simp [pickTo]
theorem zDT {ws : List Nat} {L : List (List Nat)} {n : Nat} (hn : n ≤ L.length) : ∀ r ∈ pickTo ws L n, r ∈ L := by
  intro r hr
  obtain ⟨c, hc, rfl⟩ := List.mem_map.1 hr
  have := (zNh.1 hc).1
  exact zAt (by omega)
theorem zHt (ws : List Nat) (n : Nat) : ∃ B : List Nat, colsTo ws (n + 64 * ws.length) = colsTo ws n ++ B ∧ colsOf ws = colsTo ws n ++ B := by
  have h1 : colsTo ws (64 * ws.length + n) = colsOf ws := zBy ws (64 * ws.length) n fun c h _ => zBl ws c h
  have h2 : ∀ k, ∃ B : List Nat, colsTo ws (n + k) = colsTo ws n ++ B := by
    intro k
    induction k with
    | zero => exact ⟨[], by simp⟩
    | succ k ih =>
      obtain ⟨B, hB⟩ := ih
      refine ⟨B ++ (if bitW ws (n + k) then [n + k] else []), ?_⟩
      rw [← Nat.add_assoc, zBU, hB, List.append_assoc]
  obtain ⟨B, hB⟩ := h2 (64 * ws.length)
  exact ⟨B, hB, by rw [← h1, Nat.add_comm, hB]⟩
def behindB (ws : List Nat) (n : Nat) : Bool := decide ((colsTo ws n).length < (colsOf ws).length)
def pieceAt (p : List Nat) (m i : Nat) : List Nat := (List.range m).map fun j => p.getD (i * m + j) 0
def splitTo (p : List Nat) (m k : Nat) : List (List Nat) := (List.range k).map (pieceAt p m)
def pieces (p : List Nat) (m : Nat) : Nat := (p.length + m - 1) / m
theorem zBE (p : List Nat) (m i : Nat) : (pieceAt p m i).length = m := by simp [pieceAt]
theorem zDx {p : List Nat} (h : Octets p) (m i : Nat) : Octets (pieceAt p m i) := by
  intro x hx
  obtain ⟨j, _, rfl⟩ := List.mem_map.1 hx
  exact h.getD _
theorem zE0 (p : List Nat) (m k : Nat) : splitTo p m (k + 1) = splitTo p m k ++ [pieceAt p m k] := by simp [splitTo, List.range_succ]
theorem zAN (p : List Nat) (m k : Nat) : (splitTo p m k).length = k := by simp [splitTo]
theorem zGq {p : List Nat} {m k : Nat} : ∀ r ∈ splitTo p m k, r.length = m := by
  intro r hr
  obtain ⟨i, _, rfl⟩ := List.mem_map.1 hr
  exact zBE p m i
theorem zDB {p : List Nat} (h : Octets p) (m k : Nat) : ∀ r ∈ splitTo p m k, Octets r := by
  intro r hr
  obtain ⟨i, _, rfl⟩ := List.mem_map.1 hr
  exact zDx h m i
theorem zHz {p : List Nat} {m : Nat} (hm : 1 ≤ m) : p.length ≤ pieces p m * m ∧ pieces p m * m < p.length + m := by
  unfold pieces
  have h1 := Nat.div_add_mod (p.length + m - 1) m
  have h2 := Nat.mod_lt (p.length + m - 1) (show 0 < m by omega)
  rw [Nat.mul_comm] at h1
  omega
theorem zFr {p : List Nat} {m k : Nat} (hm : 1 ≤ m) : k * m < p.length ↔ k < pieces p m := by
  obtain ⟨h1, h2⟩ := zHz (p := p) hm
  constructor
  · intro h
    apply Nat.lt_of_not_le
    intro hk
    have := Nat.mul_le_mul_right m hk
    omega
  · intro h
    have := Nat.mul_le_mul_right m (show k + 1 ≤ pieces p m by omega)
    rw [Nat.succ_mul] at this
    omega
end

section
def revN : Nat → Nat → Nat
  | 0, _ => 0
  | b + 1, v => v % 2 * 2 ^ b + revN b (v / 2)
theorem zAF (b v : Nat) : revN (b + 1) v = v % 2 * 2 ^ b + revN b (v / 2) := rfl
theorem zC0 : ∀ (b v : Nat), revN b v < 2 ^ b
  | 0, v => by simp [revN]
  | b + 1, v => by
    have h := zC0 b (v / 2)
    rw [zAF, Nat.pow_succ]
    rcases Nat.mod_two_eq_zero_or_one v with e | e <;> rw [e] <;> omega
theorem zB8 : ∀ (b v : Nat), revN (b + 1) v = 2 * revN b v + v / 2 ^ b % 2
  | 0, v => by simp [revN]
  | b + 1, v => by
    have h : revN (b + 1) (v / 2) = 2 * revN b (v / 2) + v / 2 ^ (b + 1) % 2 := by
      rw [zB8 b (v / 2), Nat.div_div_eq_div_mul, Nat.mul_comm 2 (2 ^ b), ← Nat.pow_succ]
    rw [zAF (b + 1) v, zAF b v, h]
    generalize v / 2 ^ (b + 1) % 2 = e
    rw [Nat.pow_succ, ← Nat.mul_assoc]
    omega
theorem zBD : ∀ (b v : Nat), revN b (v % 2 ^ b) = revN b v
  | 0, v => rfl
  | b + 1, v => by
    have e1 : v % 2 ^ (b + 1) % 2 = v % 2 := Nat.mod_mod_of_dvd v ⟨2 ^ b, by rw [Nat.pow_succ, Nat.mul_comm]⟩
    have e2 : v % 2 ^ (b + 1) / 2 = v / 2 % 2 ^ b := by rw [Nat.pow_succ, Nat.mul_comm, Nat.mod_mul_right_div_self]
    rw [zAF, zAF, e1, e2, zBD b]
theorem zCV : ∀ (b v : Nat), v < 2 ^ b → revN b (revN b v) = v
  | 0, v, h => by simp [revN] at *; omega
  | b + 1, v, h => by
    have h1 : v / 2 < 2 ^ b := by rw [Nat.pow_succ] at h; omega
    have h2 := zCV b (v / 2) h1
    have h3 := zC0 b (v / 2)
    have e2 : revN (b + 1) v / 2 ^ b % 2 = v % 2 := by
      rw [zAF, Nat.mul_comm, Nat.mul_add_div (Nat.two_pow_pos b), Nat.div_eq_of_lt h3]
      omega
    have e3 : revN b (revN (b + 1) v) = revN b (revN b (v / 2)) := by
      rw [← zBD b (revN (b + 1) v), zAF, Nat.mul_comm, Nat.mul_add_mod, Nat.mod_eq_of_lt h3]
    rw [zB8, e2, e3, h2]
    omega
theorem zFs : ∀ (l m c : Nat), revN (m + l) c = revN l (c % 2 ^ l) * 2 ^ m + revN m (c / 2 ^ l)
  | 0, m, c => by simp [revN]
  | l + 1, m, c => by
    have h := zFs l m (c / 2)
    have e : c / 2 / 2 ^ l = c / 2 ^ (l + 1) := by rw [Nat.div_div_eq_div_mul, Nat.mul_comm, ← Nat.pow_succ]
    rw [e, zBD] at h
    rw [zBD, ← Nat.add_assoc, zAF (m + l), h, zAF l, Nat.add_mul, Nat.mul_assoc, ← Nat.pow_add, Nat.add_comm l m, Nat.add_assoc]
def InLev (m l s c : Nat) : Prop := c < 2 ^ (m + l) ∧ revN (m + l) c % 2 ^ m = s % 2 ^ m
def levF (m s : Nat) : Nat := revN m (s % 2 ^ m)
theorem zEr (m s : Nat) : levF m s < 2 ^ m := zC0 _ _
theorem zKd (m l s c : Nat) : InLev m l s c ↔ levF m s * 2 ^ l ≤ c ∧ c < levF m s * 2 ^ l + 2 ^ l := by
  have hp : 0 < 2 ^ l := Nat.two_pow_pos l
  have hs : s % 2 ^ m < 2 ^ m := Nat.mod_lt _ (Nat.two_pow_pos m)
  have key : (revN (m + l) c % 2 ^ m = s % 2 ^ m) ↔ revN m (c / 2 ^ l) = s % 2 ^ m := by
    rw [zFs, Nat.mul_comm, Nat.mul_add_mod, Nat.mod_eq_of_lt (zC0 m _)]
  have hdiv : c / 2 ^ l = levF m s ↔ levF m s * 2 ^ l ≤ c ∧ c < levF m s * 2 ^ l + 2 ^ l := by
    have e := Nat.div_add_mod c (2 ^ l)
    have hr := Nat.mod_lt c hp
    constructor
    · intro h
      rw [h, Nat.mul_comm] at e
      omega
    · rintro ⟨h1, h2⟩
      exact Nat.div_eq_of_lt_le h1 (by rw [Nat.succ_mul]; exact h2)
  rw [← hdiv]
  unfold InLev
  rw [key]
  constructor
  · rintro ⟨h1, h2⟩
    have h3 : c / 2 ^ l < 2 ^ m := by
      rw [Nat.div_lt_iff_lt_mul hp, ← Nat.pow_add]
      exact h1
    unfold levF
    rw [← h2, zCV m _ h3]
  · intro h
    refine ⟨?_, ?_⟩
    · have h3 := zEr m s
      rw [← h, Nat.div_lt_iff_lt_mul hp, ← Nat.pow_add] at h3
      exact h3
    · rw [h]
      exact zCV m _ hs
theorem zE4 (m s : Nat) : levF (m + 1) s = 2 * levF m s + s / 2 ^ m % 2 := by
  unfold levF
  rw [zBD, zBD, zB8]
theorem zHv {p : Nat → Bool} {s n a k : Nat} (h1 : s ≤ a) (h2 : a + k ≤ s + n) (hp : ∀ c, s ≤ c → c < s + n → (p c = true ↔ a ≤ c ∧ c < a + k)) : (List.range' s n).filter p = List.range' a k := by
  have e : List.range' s n = List.range' s (a - s) ++ (List.range' a k ++ List.range' (a + k) (s + n - (a + k))) := by
    have e1 := List.range'_append_1 (s := a) (m := k) (n := s + n - (a + k))
    have e2 := List.range'_append_1 (s := s) (m := a - s) (n := k + (s + n - (a + k)))
    rw [show s + (a - s) = a by omega, show a - s + (k + (s + n - (a + k))) = n by omega] at e2
    rw [e1, e2]
  rw [e, List.filter_append, List.filter_append]
  have f1 : (List.range' s (a - s)).filter p = [] := by
    rw [List.filter_eq_nil_iff]
    intro c hc
    rw [List.mem_range'_1] at hc
    rw [hp c (by omega) (by omega)]
    omega
  have f2 : (List.range' a k).filter p = List.range' a k := by
    rw [List.filter_eq_self]
    intro c hc
    rw [List.mem_range'_1] at hc
    exact (hp c (by omega) (by omega)).2 ⟨by omega, by omega⟩
  have f3 : (List.range' (a + k) (s + n - (a + k))).filter p = [] := by
    rw [List.filter_eq_nil_iff]
    intro c hc
    rw [List.mem_range'_1] at hc
    rw [hp c (by omega) (by omega)]
    omega
  rw [f1, f2, f3, List.nil_append, List.append_nil]
def levL (m l s : Nat) : List Nat := List.range' (levF m s * 2 ^ l) (2 ^ l)
def layL (m s : Nat) : Nat → List Nat
  | 0 => levL m 0 s
  | l + 1 => List.range' ((2 * levF m s + (1 - s / 2 ^ m % 2)) * 2 ^ l) (2 ^ l)
theorem zLF (m l s : Nat) : levF m s * 2 ^ l + 2 ^ l ≤ 2 ^ (m + l) := by
  have h := Nat.mul_le_mul_right (2 ^ l) (zEr m s)
  rw [Nat.succ_mul, ← Nat.pow_add] at h
  exact h
theorem zGm (m l s : Nat) : (levL m l s).length = 2 ^ l := List.length_range' ..
theorem zG0 (m l s c : Nat) : c ∈ levL m l s ↔ InLev m l s c := by
  rw [zKd, levL, List.mem_range'_1]
theorem zFJ {p : Nat → Bool} (m l s : Nat) (hp : ∀ c, p c = true ↔ c ∉ levL (m + 1) l s) : (levL m (l + 1) s).filter p = layL m s (l + 1) := by
  have e : s / 2 ^ m % 2 < 2 := Nat.mod_lt _ (by decide)
  have hf := zE4 m s
  show (List.range' (levF m s * 2 ^ (l + 1)) (2 ^ (l + 1))).filter p = List.range' ((2 * levF m s + (1 - s / 2 ^ m % 2)) * 2 ^ l) (2 ^ l)
  have hq : levF m s * 2 ^ (l + 1) = 2 * (levF m s * 2 ^ l) := by rw [Nat.pow_succ, ← Nat.mul_assoc, Nat.mul_comm]
  have hq2 : 2 ^ (l + 1) = 2 * 2 ^ l := by rw [Nat.pow_succ, Nat.mul_comm]
  have hr : ∀ b : Nat, (2 * levF m s + b) * 2 ^ l = 2 * (levF m s * 2 ^ l) + b * 2 ^ l := fun b => by rw [Nat.add_mul, Nat.mul_assoc]
  have hm : ∀ c, c ∈ levL (m + 1) l s ↔ 2 * (levF m s * 2 ^ l) + (s / 2 ^ m % 2) * 2 ^ l ≤ c ∧ c < 2 * (levF m s * 2 ^ l) + (s / 2 ^ m % 2) * 2 ^ l + 2 ^ l := fun c => by
    unfold levL
    rw [List.mem_range'_1, hf, hr]
  rw [hq, hq2, hr]
  generalize levF m s * 2 ^ l = F at *
  generalize 2 ^ l = P at *
  generalize s / 2 ^ m % 2 = b at *
  have hb : b = 0 ∨ b = 1 := by omega
  refine zHv (by omega) ?_ fun c h1 h2 => ?_
  · rcases hb with rfl | rfl
    · simp; omega
    · simp; omega
  · rw [hp, hm]
    rcases hb with rfl | rfl
    · simp; omega
    · simp; omega
def rateN : Nat → Nat
  | 0 => 1
  | l + 1 => 2 ^ l
theorem zDb (m s : Nat) : ∀ l, (layL m s l).length = rateN l
  | 0 => by simp [layL, zGm, rateN]
  | l + 1 => by simp [layL, rateN]
end

section
open Go.RowKit Go.Extern.Stop Go.Stop Go.Extern
theorem zCi (a c : Nat) (C : Int) (hC : C = (c : Int)) (ha : a < 18446744073709551616) (hc : c < 18446744073709551616) : bits .and .u64 (a : Int) C = ((a &&& c : Nat) : Int) := by
  rw [hC]; exact bits_and_u64_nat a c ha hc
theorem zA5 (a : Nat) (ha : a < 18446744073709551616) : IntKind.u64.wrap (a : Int) = (a : Int) := by rw [IntKind.wrap_u64]; omega
theorem zDI (x : Nat) (hx : x < 18446744073709551616) (w : World) :
    Calls Tryz.prog 219 #[.int .u64 (x : Int)] w fun e w' => e = .returned (.int .i64 (pop x : Nat)) ∧ w = w' := by
  go_enter Tryz.func219, Tryz.ntmps219
  go_wp2
  have E := zFo x hx
  simp only at E
  obtain ⟨h1, h2, h3, h4, h5, h6, h7, h8⟩ := E
  have e1 : IntKind.u64.wrap (bits BinOp.and IntKind.u64 ((x : Int) / 2) 6148914691236517205 + bits BinOp.and IntKind.u64 (x : Int) 6148914691236517205) = (((x / 2 &&& 6148914691236517205) + (x &&& 6148914691236517205) : Nat) : Int) := by
    rw [show ((x : Int) / 2) = ((x / 2 : Nat) : Int) by omega, zCi (x / 2) 6148914691236517205 6148914691236517205 rfl (by omega) (by decide), zCi x 6148914691236517205 6148914691236517205 rfl hx (by decide), ← Int.natCast_add, zA5 _ h1]
  simp only [e1]
  generalize (x / 2 &&& 6148914691236517205) + (x &&& 6148914691236517205) = x1 at *
  have e2 : IntKind.u64.wrap (bits BinOp.and IntKind.u64 ((x1 : Int) / 4) 3689348814741910323 + bits BinOp.and IntKind.u64 (x1 : Int) 3689348814741910323) = (((x1 / 4 &&& 3689348814741910323) + (x1 &&& 3689348814741910323) : Nat) : Int) := by
    rw [show ((x1 : Int) / 4) = ((x1 / 4 : Nat) : Int) by omega, zCi (x1 / 4) 3689348814741910323 3689348814741910323 rfl (by omega) (by decide), zCi x1 3689348814741910323 3689348814741910323 rfl h1 (by decide), ← Int.natCast_add, zA5 _ h2]
  simp only [e2]
  generalize (x1 / 4 &&& 3689348814741910323) + (x1 &&& 3689348814741910323) = x2 at *
  have e3 : bits BinOp.and IntKind.u64 (IntKind.u64.wrap ((x2 : Int) / 16 + (x2 : Int))) 1085102592571150095 = (((x2 / 16 + x2) &&& 1085102592571150095 : Nat) : Int) := by
    rw [show ((x2 : Int) / 16 + (x2 : Int)) = ((x2 / 16 + x2 : Nat) : Int) by omega, zA5 _ h3, zCi _ 1085102592571150095 1085102592571150095 rfl h3 (by decide)]
  simp only [e3]
  generalize (x2 / 16 + x2) &&& 1085102592571150095 = x3 at *
  have e4 : IntKind.u64.wrap ((x3 : Int) + (x3 : Int) / 256) = ((x3 + x3 / 256 : Nat) : Int) := by
    rw [show ((x3 : Int) + (x3 : Int) / 256) = ((x3 + x3 / 256 : Nat) : Int) by omega, zA5 _ h5]
  simp only [e4]
  generalize x3 + x3 / 256 = x4 at *
  have e5 : IntKind.u64.wrap ((x4 : Int) + (x4 : Int) / 65536) = ((x4 + x4 / 65536 : Nat) : Int) := by
    rw [show ((x4 : Int) + (x4 : Int) / 65536) = ((x4 + x4 / 65536 : Nat) : Int) by omega, zA5 _ h6]
  simp only [e5]
  generalize x4 + x4 / 65536 = x5 at *
  have e6 : IntKind.u64.wrap ((x5 : Int) + (x5 : Int) / 4294967296) = ((x5 + x5 / 4294967296 : Nat) : Int) := by
    rw [show ((x5 : Int) + (x5 : Int) / 4294967296) = ((x5 + x5 / 4294967296 : Nat) : Int) by omega, zA5 _ (by omega)]
  simp only [e6]
  generalize x5 + x5 / 4294967296 = x6 at *
  clear e1 e2 e3 e4 e5 e6 h1 h2 h3 h4 h5 h6 hx
  have e7 : wrap64 (x6 : Int) = (x6 : Int) := by unfold wrap64; omega
  simp only [e7, i64_and127]
  go_ret
  exact ⟨by rw [← h8, Int.natCast_emod]; rfl, rfl⟩
end

section
open Go.RowKit Go.Extern.Stop Go.Stop Go.Extern
def hasI (ws : List Nat) (c : Int) : Bool := if c < 0 then false else bitW ws c.toNat
theorem zJh (x b : Nat) : ((x : Int) / 2 ^ b) = ((x / 2 ^ b : Nat) : Int) := by simp
theorem zGk (x b : Nat) (hx : x < 18446744073709551616) : (bits BinOp.and IntKind.u64 ((x : Int) / 2 ^ b) 1 == 1) = x.testBit b := by
  have hle : x / 2 ^ b ≤ x := Nat.div_le_self _ _
  rw [zJh, zCi (x / 2 ^ b) 1 1 rfl (by omega) (by decide), Nat.and_one_is_mod, Nat.testBit_eq_decide_div_mod_eq]
  by_cases h : x / 2 ^ b % 2 = 1
  · rw [h]; rfl
  · rw [decide_eq_false h, show x / 2 ^ b % 2 = 0 by omega]; rfl
theorem zCX (x b : Nat) : ((x : Int) / 2 ^ b % 2 == 1) = x.testBit b := by
  rw [zJh, Nat.testBit_eq_decide_div_mod_eq]
  by_cases h : x / 2 ^ b % 2 = 1
  · rw [decide_eq_true h, show ((x / 2 ^ b : Nat) : Int) % 2 = 1 by omega]; rfl
  · rw [decide_eq_false h, show ((x / 2 ^ b : Nat) : Int) % 2 = 0 by omega]; rfl
theorem zGg {w : World} (v : Value) (ws : List Nat) (c : Int) (h : ListAt wordV w v ws) (hw : Word ws) (hc : -9223372036854775808 ≤ c ∧ c ≤ 9223372036854775807) :
    Calls Tryz.prog 192 #[v, .int .i64 c] w fun e w' => e = .returned (.bool (hasI ws c)) ∧ w = w' := by
  have hlen := h.len
  obtain ⟨a, cap, rfl, hcap, hcm, hcell⟩ := h
  by_cases h0 : c < 0
  · clear hcell
    go_enter Tryz.func192, Tryz.ntmps192
    go_wp2
    go_ret
    exact ⟨by rw [hasI, if_pos h0]; rfl, rfl⟩
  · obtain ⟨n, rfl⟩ : ∃ n : Nat, c = (n : Int) := ⟨c.toNat, by omega⟩
    have HR : Hid (hasI ws (n : Int) = bitW ws n) := by
      show _ = _
      rw [hasI, if_neg (by omega)]; rfl
    by_cases hl : n / 64 < ws.length
    · obtain ⟨b, off, rfl, hcc⟩ := hcell (by omega)
      have hx : w.cell? ⟨b, off + n / 64, none⟩ = some (.int .u64 (ws[n / 64] : Int)) := hcc _ hl
      have hxlt := hw _ (List.getElem_mem hl)
      have HB : Hid (bitW ws n = (ws[n / 64]).testBit (n % 64)) := by
        show _ = _
        unfold bitW
        rw [List.getD_eq_getElem?_getD, List.getElem?_eq_getElem hl]; rfl
      clear hcc hcell
      generalize ws[n / 64] = x at *
      have hl2 : (n : Int) / 64 < (ws.length : Int) := by omega
      go_enter Tryz.func192, Tryz.ntmps192
      go_wp2
      go_ret
      exact ⟨by rw [HR.out, HB.out, ← zGk _ _ hxlt]; rfl, rfl⟩
    · have hl2 : ¬ (n : Int) / 64 < (ws.length : Int) := by omega
      clear hcell
      go_enter Tryz.func192, Tryz.ntmps192
      go_wp2
      go_ret
      exact ⟨by rw [HR.out, zBl _ _ (by omega)]; rfl, rfl⟩
theorem zEU {w : World} (v : Value) (ws : List Nat) (h : ListAt wordV w v ws) (hw : Word ws) (hlen : ws.length ≤ 100000) :
    Calls Tryz.prog 193 #[v] w fun e w' => e = .returned (.int .i64 ((colsOf ws).length : Nat)) ∧ w = w' := by
  obtain ⟨a, cap, rfl, hcap, hcm, hcell⟩ := h
  have HC := lhd hcell
  have HW := lhd hw
  clear hcell hw
  go_enter Tryz.func193, Tryz.ntmps193
  go_wp2
  go_loopw [3, 8] (fun n i wr => ∃ k : Nat, k ≤ ws.length ∧ i = .int .i64 k ∧ n = .int .i64 ((colsTo ws (64 * k)).length : Nat) ∧ w = wr) (fun _ i _ => ws.length - (intOf i).toNat)
  case atStart => exact ⟨0, Nat.zero_le _, rfl, rfl, rfl⟩
  case round =>
    obtain ⟨k, hk, rfl, rfl, rfl⟩ := hrel
    have hm := zBo ws (64 * k)
    by_cases hlt : k < ws.length
    · obtain ⟨b, off, rfl, hcc⟩ := HC.out (by omega)
      have hx : w.cell? ⟨b, off + k, none⟩ = some (.int .u64 (ws[k] : Int)) := hcc k hlt
      have hxlt := HW.out _ (List.getElem_mem hlt)
      have HS : Hid ((colsTo ws (64 * (k + 1))).length = (colsTo ws (64 * k)).length + pop ws[k]) := by
        show _ = _
        rw [zF8, List.getD_eq_getElem?_getD, List.getElem?_eq_getElem hlt]; rfl
      clear hcc
      generalize ws[k] = x at *
      generalize (colsTo ws (64 * k)).length = m at *
      have hp := zIE x
      go_wp2_with fail
      refine (zDI x hxlt _).mono ?_
      rintro e w1 ⟨rfl, rfl⟩
      go_wp2
      go_roundw
      case rel => exact ⟨k + 1, by omega, by go_num, by rw [HS.out]; go_num, trivial⟩
      case measure => simp [intOf]; omega
    · have hk' : k = ws.length := by omega
      go_wp2
      go_ret
      exact ⟨by rw [hk']; rfl, rfl⟩
end

section
open Go.RowKit Go.Extern.Stop Go.Stop Go.Extern
theorem zAQ {w : World} {base n g : Nat} {e : TypeId} {xs : List Value} (h : w.ownsRow base e 1 (.slice (some ⟨g, 0, none⟩) n n) n xs) : base ≤ g ∧ xs.length = n ∧ w.heap[g]? = some (.cells xs.toArray e (0, 0)) := by
  have h1 := h.1
  rcases h.2 with ⟨e1, _⟩ | ⟨g', cap, cur, e1, hb, hg, hc, hm, hs, ht⟩
  · cases e1
  · obtain ⟨rfl, rfl⟩ : g = g' ∧ n = cap := by simpa using e1
    refine ⟨hb, by omega, ?_⟩
    rw [hg]
    have : cur.toList = xs := by
      rw [← ht, List.take_of_length_le (by simp; omega)]
    rw [← this]
theorem zAq {w : World} {base n g : Nat} {e : TypeId} {xs : List Value} (hb : base ≤ g) (hl : xs.length = n) (hm : n ≤ maxLen) (h : w.heap[g]? = some (.cells xs.toArray e (0, 0))) : w.ownsRow base e 1 (.slice (some ⟨g, 0, none⟩) n n) n xs :=
  ⟨by omega, .inr ⟨g, n, xs.toArray, rfl, hb, h, Nat.le_refl _, hm, by simp; omega, by rw [List.take_of_length_le (by simp; omega)]⟩⟩
theorem zId {α : Type} {L cs : List α} (h : cs.length = L.length) : splice L 0 cs = cs := by
  unfold splice
  rw [List.drop_of_length_le (by omega)]
  simp
theorem zAa {w : World} {b j : Nat} {cur : Array Value} {t : TypeId} {z : Nat × Nat} {u : Value} (h : w.heap[b]? = some (.cells cur t z)) (hj : cur[j]? = some u) : w.cell? ⟨b, j, none⟩ = some u := by
  unfold World.cell?
  rw [show w.heap[(⟨b, j, none⟩ : Addr).block]? = _ from h]
  simpa using hj
theorem zAb {w : World} {b j : Nat} {cur : Array Value} {t : TypeId} (h : w.heap[b]? = some (.cells cur t (0, 0))) : w.frozen? ⟨b, j, none⟩ = false := by
  unfold World.frozen?
  rw [show w.heap[(⟨b, j, none⟩ : Addr).block]? = _ from h]
  simp
theorem zAc {w : World} {b j : Nat} {cur : Array Value} {t : TypeId} {z : Nat × Nat} {u : Value} (h : w.heap[b]? = some (.cells cur t z)) : (w.setCell ⟨b, j, none⟩ u).heap[b]? = some (.cells (cur.setIfInBounds j u) t z) := by
  simp only [World.setCell, Array.getElem?_modify]
  simp [h]
theorem zAp {w w' : World} {e : TypeId} {v : Value} {k base : Nat} {xs : List Value} (h : w.ownsRow base e 1 v k xs) (hs : ∀ (g : Nat) (cur : Array Value), w.heap[g]? = some (Obj.cells cur e (0, 0)) → w'.heap[g]? = w.heap[g]?) : w'.ownsRow base e 1 v k xs := by
  refine ⟨h.1, ?_⟩
  rcases h.2 with h1 | ⟨g, cap, cur, h1, h2, h3, h4⟩
  · exact .inl h1
  · exact .inr ⟨g, cap, cur, h1, h2, by rw [hs g cur h3]; exact h3, h4⟩
theorem zAJ {w : World} {e : TypeId} {v : Value} {k base : Nat} {xs : List Value} (h : w.ownsRow base e 1 v k xs) {g : Nat} {cur : Array Value} {t : TypeId} {z : Nat × Nat} (hg : w.heap[g]? = some (Obj.cells cur t z)) (hne : t ≠ e) (j : Nat) (u : Value) : (w.setCell ⟨g, j, none⟩ u).ownsRow base e 1 v k xs :=
  zAp h fun g' cur' hg' => Below.heap_setCell _ _ _ _ (by
    intro e1
    rw [show g' = g from e1, hg] at hg'
    simp at hg'
    exact hne hg'.2.1)
end

section
open Go.RowKit Go.Extern.Stop Go.Stop Go.Extern
theorem zAl {j n : Nat} (h : j ≤ n) : 2 ^ j ≤ 2 ^ n := Nat.pow_le_pow_right (by decide) h
def mayB (g l : Int) : Bool := decide (1 ≤ g ∧ g ≤ 8 ∧ 0 ≤ l ∧ l < g)
end

section
open Go.RowKit Go.Extern.Stop Go.Stop Go.Extern
def cnkV (c : Nat) : Value := .int .i64 (c : Int)
end

section
open Go.RowKit Go.Extern.Stop Go.Stop Go.Extern
def outI (l : List Int) (n : Int) : Bool := l.any fun c => decide (c < 0) || decide (n ≤ c)
def sizeI (n : Int) : Int := if n < 0 ∨ 4096 < n then 0 else (n + 63) / 64
end

section
open Go.RowKit Go.Extern.Stop Go.Stop Go.Extern
def stEsiN (g n l : Int) : Int := if mayB g l = true ∧ 1 ≤ n ∧ n ≤ 65536 then (if n.toNat % 2 ^ (g - 1).toNat = 0 then 0 else 2) else 1
def stEsiTo (z : Nat) (L : List Nat) : List Nat := L.flatMap fun c => (List.range z).map fun k => c * z + k
def stEsiL (m l s z : Nat) : List Nat := stEsiTo z (layL m s l)
theorem zGs (z : Nat) (F : List Nat) (j : Nat) (h : j < F.length) : stEsiTo z (F.take (j + 1)) = stEsiTo z (F.take j) ++ (List.range z).map fun k => F.getD j 0 * z + k := by
  unfold stEsiTo
  rw [List.take_add_one, List.getElem?_eq_getElem h, List.flatMap_append, List.getD_eq_getElem?_getD, List.getElem?_eq_getElem h]
  simp
theorem zA6 (z : Nat) : ∀ F : List Nat, (stEsiTo z F).length = F.length * z
  | [] => by simp [stEsiTo]
  | c :: F => by
    have := zA6 z F
    unfold stEsiTo at *
    rw [List.flatMap_cons, List.length_append, this, List.length_map, List.length_range, List.length_cons, Nat.succ_mul, Nat.add_comm]
end

section
def CaOk (b u t : Int) : Prop := 2 ≤ b ∧ b ≤ 4096 ∧ 1 ≤ u ∧ u < b ∧ 0 ≤ t ∧ t < 1099511627776
instance (b u t : Int) : Decidable (CaOk b u t) := by unfold CaOk; infer_instance
def caN (b u t : Int) : Int := if CaOk b u t then 0 else 1
theorem caN_zero {b u t : Int} : caN b u t = 0 ↔ CaOk b u t := by
  unfold caN
  split
  · simp_all
  · simp_all
theorem zMq {b u t : Int} (h : ¬ CaOk b u t) : caN b u t = 1 := if_neg h
theorem CaOk.nat {b u t : Int} (h : CaOk b u t) : ∃ b' u' t' : Nat, b = b' ∧ u = u' ∧ t = t' ∧ 2 ≤ b' ∧ b' ≤ 4096 ∧ 1 ≤ u' ∧ u' < b' ∧ t' < 1099511627776 := by
  obtain ⟨h1, h2, h3, h4, h5, h6⟩ := h
  exact ⟨b.toNat, u.toNat, t.toNat, by omega, by omega, by omega, by omega, by omega, by omega, by omega, by omega⟩
def burstB (b u t : Nat) : Bool := decide (b - u ≤ t % b)
def syncZ (b t : Nat) : Nat → Int
  | 0 => -1
  | l + 1 => if 0 < t ∧ t % (b * 2 ^ l) = 0 then (l : Int) else syncZ b t l
def cntZ (b u r : Nat) : Nat := r + (r - (b - u))
def stepsZ (b u t : Nat) : Nat := t / b * (b + u) + cntZ b u (t % b)
def rowZ (b u t : Nat) : List Nat := if burstB b u t then [stepsZ b u t % 4294967296, (stepsZ b u t + 1) % 4294967296] else [stepsZ b u t % 4294967296]
theorem zK1 {b t l : Nat} (h0 : 0 < t) (h : t % (b * 2 ^ l) = 0) : syncZ b t (l + 1) = (l : Int) := if_pos ⟨h0, h⟩
theorem zMC {b u r : Nat} (hr : r ≤ b) (hu : u ≤ b) : cntZ b u r ≤ b + u := by unfold cntZ; omega
end

section
def upN (d n : Nat) : Nat := n / d + (if 0 < n % d then 1 else 0)
theorem zL6 {d n k : Nat} (hd : 0 < d) : upN d n ≤ k ↔ n ≤ k * d := by
  have e := Nat.div_add_mod n d
  have hr := Nat.mod_lt n hd
  unfold upN
  generalize n / d = q at *
  generalize n % d = r at *
  rw [Nat.mul_comm] at e
  by_cases h : 0 < r
  · rw [if_pos h]
    constructor
    · intro hk
      have := Nat.mul_le_mul_right d hk
      rw [Nat.add_mul] at this
      omega
    · intro hk
      rcases Nat.lt_or_ge q k with h' | h'
      · omega
      · have := Nat.mul_le_mul_right d h'
        omega
  · rw [if_neg h]
    constructor
    · intro hk
      have := Nat.mul_le_mul_right d (show q ≤ k by omega)
      omega
    · intro hk
      exact Nat.le_of_mul_le_mul_right (show q * d ≤ k * d by omega) hd
theorem zCH {d : Nat} (hd : 0 < d) (n : Nat) : upN d n ≤ n := (zL6 hd).2 (Nat.le_mul_of_pos_right _ hd)
theorem zF3 {d : Nat} (hd : 0 < d) (n : Nat) : n ≤ upN d n * d := (zL6 hd).1 (Nat.le_refl _)
def symT (s b : Nat) : Nat := max (upN b s) 1
theorem zEE (s b : Nat) : 1 ≤ symT s b := by unfold symT; omega
theorem zEA {s b : Nat} (hb : 0 < b) : symT s b ≤ max s 1 := by have := zCH hb s; unfold symT; omega
theorem zEo {s b : Nat} (hb : 0 < b) : s ≤ symT s b * b ∧ symT s b * b < max s 1 + b := by
  have h1 := zF3 hb s
  have e := Nat.div_add_mod s b
  have hr := Nat.mod_lt s hb
  have h3 : upN b s * b ≤ symT s b * b := Nat.mul_le_mul_right _ (by unfold symT; omega)
  refine ⟨by omega, ?_⟩
  by_cases h0 : s = 0
  · subst h0
    have : symT 0 b = 1 := by simp [symT, upN]
    rw [this]; omega
  · have : symT s b = upN b s := by
      unfold symT
      have : 1 ≤ upN b s := by
        rcases Nat.eq_zero_or_pos (upN b s) with h | h
        · rw [h] at h1; omega
        · exact h
      omega
    rw [this]
    unfold upN
    rw [Nat.mul_comm] at e
    rw [Nat.add_mul]
    split <;> omega
def cntP (l q i : Nat) : Nat := if i < l then q + 1 else q
def offP (l q i : Nat) : Nat := i * q + min i l
theorem zIB (l q : Nat) : offP l q 0 = 0 := by simp [offP]
theorem zFC (l q i : Nat) : offP l q (i + 1) = offP l q i + cntP l q i := by
  unfold offP cntP
  rw [Nat.add_mul]
  split <;> omega
theorem zIX {l q i j : Nat} (h : i ≤ j) : offP l q i ≤ offP l q j := by
  unfold offP
  have := Nat.mul_le_mul_right q h
  omega
theorem zKU {l q n : Nat} (h : l ≤ n) : offP l q n = n * q + l := by unfold offP; omega
structure PlanOk (s b n l q : Nat) : Prop where
  b1 : 1 ≤ b
  b64 : b ≤ 64
  n1 : 1 ≤ n
  n16 : n ≤ 16
  lt : l < n
  q1 : 1 ≤ q
  q128 : q ≤ 128
  q127 : 0 < l → q < 128
  sum : n * q + l = symT s b
theorem PlanOk.symT_le {s b n l q : Nat} (h : PlanOk s b n l q) : symT s b ≤ 2048 := by
  rw [← h.sum]
  have h1 := h.n16
  have h2 := h.q128
  have h4 := h.lt
  rcases Nat.eq_zero_or_pos l with h0 | h0
  · subst h0
    have : n * q ≤ 16 * 128 := Nat.mul_le_mul h1 h2
    omega
  · have := h.q127 h0
    have : n * q ≤ 16 * 127 := Nat.mul_le_mul h1 (by omega)
    omega
theorem PlanOk.size_le {s b n l q : Nat} (h : PlanOk s b n l q) : s ≤ 131072 ∧ symT s b * b ≤ 131072 := by
  have h1 := (zEo (s := s) h.b1).1
  have : symT s b * b ≤ 2048 * 64 := Nat.mul_le_mul h.symT_le h.b64
  omega
theorem PlanOk.off {s b n l q : Nat} (h : PlanOk s b n l q) : offP l q n = symT s b := by rw [zKU (by have := h.lt; omega), h.sum]
theorem PlanOk.cnt {s b n l q : Nat} (h : PlanOk s b n l q) (i : Nat) : 1 ≤ cntP l q i ∧ cntP l q i ≤ 128 := by
  have h1 := h.q1; have h2 := h.q128; have h3 := h.q127
  unfold cntP
  split <;> omega
def planC (s b n l q : Int) : Int :=
  if s < 0 ∨ b < 1 ∨ 64 < b then 1 else if n < 1 ∨ 16 < n ∨ l < 0 ∨ n ≤ l ∨ q < 1 ∨ 128 < q ∨ (0 < l ∧ q = 128) then 2 else if n * q + l = (symT s.toNat b.toNat : Int) then 0 else 2
theorem zDS {s b n l q : Int} (h : planC s b n l q = 0) : ∃ s' b' n' l' q' : Nat, s = s' ∧ b = b' ∧ n = n' ∧ l = l' ∧ q = q' ∧ PlanOk s' b' n' l' q' := by
  unfold planC at h
  split at h
  · omega
  · split at h
    · omega
    · split at h
      · rename_i h1 h2 h3
        refine ⟨s.toNat, b.toNat, n.toNat, l.toNat, q.toNat, by omega, by omega, by omega, by omega, by omega, ⟨by omega, by omega, by omega, by omega, by omega, by omega, by omega, by omega, ?_⟩⟩
        have e1 : ((n.toNat : Nat) : Int) = n := by omega
        have e2 : ((q.toNat : Nat) : Int) = q := by omega
        have e3 : ((l.toNat : Nat) : Int) = l := by omega
        have : ((n.toNat * q.toNat + l.toNat : Nat) : Int) = (symT s.toNat b.toNat : Int) := by
          rw [Int.natCast_add, Int.natCast_mul, e1, e2, e3, h3]
        omega
      · omega
theorem zEj {s b n l q : Nat} (h : PlanOk s b n l q) : planC (s : Int) (b : Int) (n : Int) (l : Int) (q : Int) = 0 := by
  obtain ⟨h1, h2, h3, h4, h5, h6, h7, h8, h9⟩ := h
  unfold planC
  rw [if_neg (by omega), if_neg (by omega), if_pos]
  have : ((n * q + l : Nat) : Int) = ((symT s b : Nat) : Int) := by rw [h9]
  rw [Int.natCast_add, Int.natCast_mul] at this
  simpa using this
structure PlanOf (s b m n l q : Nat) : Prop where
  b1 : 1 ≤ b
  b64 : b ≤ 64
  m1 : 1 ≤ m
  m128 : m ≤ 128
  ns : n = upN m (symT s b)
  ls : l = symT s b % n
  qs : q = symT s b / n
theorem zL3 {m t : Nat} (hm : 1 ≤ m) (ht : 1 ≤ t) : 1 ≤ upN m t := by
  have := zF3 hm t
  rcases Nat.eq_zero_or_pos (upN m t) with h | h
  · rw [h] at this; omega
  · exact h
theorem PlanOf.ok {s b m n l q : Nat} (h : PlanOf s b m n l q) (hn : n ≤ 16) : PlanOk s b n l q := by
  obtain ⟨h1, h2, h3, h4, h5, h6, h7⟩ := h
  have ht := zEE s b
  have hp : 1 ≤ n := by rw [h5]; exact zL3 h3 ht
  have e := Nat.div_add_mod (symT s b) n
  have hr := Nat.mod_lt (symT s b) hp
  have hup := zF3 h3 (symT s b)
  rw [← h5] at hup
  have hle : upN m (symT s b) ≤ symT s b := zCH h3 _
  rw [← h5] at hle
  rw [← h6, ← h7] at e
  rw [← h6] at hr
  have hq1 : 1 ≤ q := by
    rcases Nat.eq_zero_or_pos q with h0 | h0
    · rw [h0, Nat.mul_zero] at e; omega
    · exact h0
  have hqm : n * q + l ≤ n * m := by omega
  have hqm1 : q ≤ m := by
    rcases Nat.lt_or_ge m q with h' | h'
    · have := Nat.mul_le_mul_left n (show m + 1 ≤ q by omega)
      rw [Nat.mul_add] at this
      omega
    · exact h'
  refine ⟨h1, h2, hp, hn, hr, hq1, by omega, fun h0 => ?_, e⟩
  rcases Nat.lt_or_ge q 128 with h' | h'
  · exact h'
  · have : q = m := by omega
    rw [this] at hqm
    omega
end

section
@[ext] structure Pkt where
  kind : Int
  session : Int
  layer : Int
  tick : Int
  burst : Bool
  sync : Int
  many : Int
  place : Int
  block : Int
  esi : Int
  data : List Nat
  size : Int
  symbol : Int
  blocks : Int
  long : Int
  short : Int
  layers : Int
  esis : Int
  base : Int
  length : Int
deriving DecidableEq
def pkt0 : Pkt := ⟨0, 0, 0, 0, false, 0, 0, 0, 0, 0, [], 0, 0, 0, 0, 0, 0, 0, 0, 0⟩
structure RangedP (p : Pkt) : Prop where
  k1 : 1 ≤ p.kind
  k2 : p.kind ≤ 2
  s1 : 0 ≤ p.session
  s2 : p.session ≤ 65535
  l1 : 0 ≤ p.layer
  l2 : p.layer ≤ 7
  t1 : 0 ≤ p.tick
  t2 : p.tick ≤ 1099511627775
  d : p.kind = 1 → (-1 ≤ p.sync ∧ p.sync ≤ 7) ∧ (1 ≤ p.many ∧ p.many ≤ 4096) ∧ (0 ≤ p.place ∧ p.place ≤ p.many - 1) ∧ (0 ≤ p.block ∧ p.block ≤ 15) ∧ (0 ≤ p.esi ∧ p.esi ≤ 65535)
  a : p.kind = 2 → p.layer = 0 ∧ p.size ≤ 4294967295 ∧ (1 ≤ p.layers ∧ p.layers ≤ 8) ∧ (1 ≤ p.esis ∧ p.esis ≤ 65536) ∧ (2 ≤ p.base ∧ p.base ≤ 4096) ∧ (1 ≤ p.length ∧ p.length ≤ p.base - 1)
structure FormP (p : Pkt) : Prop where
  d : p.kind = 1 → (p.size = 0 ∧ p.symbol = 0 ∧ p.blocks = 0 ∧ p.long = 0 ∧ p.short = 0) ∧ p.layers = 0 ∧ p.esis = 0 ∧ p.base = 0 ∧ p.length = 0 ∧ 1 ≤ p.data.length ∧ p.data.length ≤ 64
  a : p.kind = 2 → p.burst = false ∧ p.sync = 0 ∧ p.many = 0 ∧ p.place = 0 ∧ p.block = 0 ∧ p.esi = 0 ∧ p.data = [] ∧ planC p.size p.symbol p.blocks p.long p.short = 0
open Classical in
noncomputable def ckN (p : Pkt) : Int := if RangedP p then (if FormP p then 0 else 2) else 1
theorem ckN_zero {p : Pkt} : ckN p = 0 ↔ RangedP p ∧ FormP p := by
  unfold ckN
  constructor
  · intro h
    split at h
    · rename_i h1
      split at h
      · rename_i h2; exact ⟨h1, h2⟩
      · cases h
    · cases h
  · rintro ⟨h1, h2⟩
    rw [if_pos h1, if_pos h2]
theorem zMt {p : Pkt} (h : ¬ RangedP p) : ckN p = 1 := by unfold ckN; rw [if_neg h]
theorem zMm {p : Pkt} (h : RangedP p) (h2 : ¬ FormP p) : ckN p = 2 := by unfold ckN; rw [if_pos h, if_neg h2]
def beN : Nat → Nat → List Nat
  | 0, _ => []
  | k + 1, n => beN k (n / 256) ++ [n % 256]
theorem zBc : ∀ (k n : Nat), (beN k n).length = k
  | 0, _ => rfl
  | k + 1, n => by rw [beN, List.length_append, zBc k]; rfl
theorem zCo : ∀ (k n : Nat), Octets (beN k n)
  | 0, _ => fun x hx => by cases hx
  | k + 1, n => fun x hx => by
    rcases List.mem_append.1 hx with h | h
    · exact zCo k _ x h
    · rw [List.mem_singleton.1 h]; omega
def wrHeadB (p : Pkt) : List Nat := beN 1 p.kind.toNat ++ (beN 2 p.session.toNat ++ (beN 1 p.layer.toNat ++ beN 5 p.tick.toNat))
def bodyD (p : Pkt) : List Nat := wrHeadB p ++ (beN 1 ((p.sync + 1).toNat + (if p.burst then 128 else 0)) ++ (beN 2 p.many.toNat ++ (beN 2 p.place.toNat ++ (beN 1 p.block.toNat ++ (beN 2 p.esi.toNat ++ p.data)))))
def bodyA (p : Pkt) : List Nat := wrHeadB p ++ (beN 4 p.size.toNat ++ (beN 1 p.symbol.toNat ++ (beN 1 p.blocks.toNat ++ (beN 1 p.long.toNat ++ (beN 1 p.short.toNat ++ (beN 1 p.layers.toNat ++ (beN 2 (p.esis - 1).toNat ++ (beN 2 p.base.toNat ++ beN 2 p.length.toNat))))))))
def bodyP (p : Pkt) : List Nat := if p.kind = 1 then bodyD p else bodyA p
theorem zCx (p : Pkt) : (wrHeadB p).length = 9 := by simp [wrHeadB, zBc]
theorem zFx (p : Pkt) : (bodyD p).length = 17 + p.data.length := by simp [bodyD, zCx, zBc]; omega
theorem zE3 (p : Pkt) : (bodyA p).length = 24 := by simp [bodyA, zCx, zBc]
theorem zET {p : Pkt} (ho : Octets p.data) : Octets (bodyP p) := by
  intro x hx
  unfold bodyP at hx
  split at hx
  · unfold bodyD wrHeadB at hx
    simp only [List.mem_append] at hx
    rcases hx with (h | h | h | h) | h | h | h | h | h | h <;> first | exact zCo _ _ x h | exact ho x h
  · unfold bodyA wrHeadB at hx
    simp only [List.mem_append] at hx
    rcases hx with (h | h | h | h) | h | h | h | h | h | h | h | h | h <;> exact zCo _ _ x h
def IsPkt (c : List Nat) (p : Pkt) : Prop := RangedP p ∧ FormP p ∧ bodyP p = c
theorem IsPkt.len {c : List Nat} {p : Pkt} (h : IsPkt c p) : 18 ≤ c.length ∧ c.length ≤ 81 := by
  rw [← h.2.2]
  unfold bodyP
  split
  · rename_i hk
    rw [zFx]
    have := (h.2.1.d hk).2
    omega
  · rw [zE3]; omega
end
end Go.Proofs.YtkfimdpcadbcpaaGreatDoor
