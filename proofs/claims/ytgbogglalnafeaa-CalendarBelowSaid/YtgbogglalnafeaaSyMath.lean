/- Symbols as lists of bytes: sums column by column, what is picked, pieces; no program but for the conversion to a string. -/
import Derived.Test.YtgbogglalnafeaaLists
import Derived.Test.YtgbogglalnafeaaWordsMath
import Derived.Laws.BytesArg
namespace Go.Proofs.Ytgbogglalnafeaa
open Go.RowKit Go.Extern.Stop Go.Stop Go.Extern

def byteV (x : Nat) : Value := .int .u8 (x : Int)
def Octets (l : List Nat) : Prop := ∀ x ∈ l, x < 256
def strN (l : List Nat) : ByteArray := strOfNums (l.map Int.ofNat)

theorem info_u8 : (Try.prog.info? 5).map (fun i => (i.zero, i.size, i.bytes)) = some (some (.int .u8 0), 1, 1) := by kernel_rfl
theorem bits_xor_u8_nat (a b : Nat) (ha : a < 256) (hb : b < 256) : bits .xor .u8 (a : Int) (b : Int) = ((a ^^^ b : Nat) : Int) := by
  have hx : a ^^^ b < 2 ^ 8 := Nat.xor_lt_two_pow (by omega) (by omega)
  have h1 : (BitVec.ofInt 8 (a : Int)).toNat = a := by
    rw [BitVec.ofInt_natCast, BitVec.toNat_ofNat]; exact Nat.mod_eq_of_lt (by omega)
  have h2 : (BitVec.ofInt 8 (b : Int)).toNat = b := by
    rw [BitVec.ofInt_natCast, BitVec.toNat_ofNat]; exact Nat.mod_eq_of_lt (by omega)
  show IntKind.u8.wrap ((BitVec.ofInt 8 (a : Int) ^^^ BitVec.ofInt 8 (b : Int)).toNat : Int) = _
  rw [BitVec.toNat_xor, h1, h2, IntKind.wrap_u8]
  omega

theorem Octets.getD {l : List Nat} (h : Octets l) (i : Nat) : l.getD i 0 < 256 := by
  by_cases hi : i < l.length
  · rw [List.getD_eq_getElem?_getD, List.getElem?_eq_getElem hi]; exact h _ (List.getElem_mem hi)
  · rw [List.getD_eq_getElem?_getD, List.getElem?_eq_none (by omega)]; decide
theorem Octets.set {l : List Nat} (h : Octets l) (k x : Nat) (hx : x < 256) : Octets (l.set k x) := by
  intro y hy
  rcases List.mem_or_eq_of_mem_set hy with hy | rfl
  · exact h y hy
  · exact hx
theorem Octets.replicate (n : Nat) : Octets (List.replicate n 0) := fun x hx => by have := (List.mem_replicate.1 hx).2; omega
theorem Octets.row {L : List (List Nat)} (h : ∀ r ∈ L, Octets r) (k : Nat) : Octets (L.getD k []) := by
  by_cases hi : k < L.length
  · rw [List.getD_eq_getElem?_getD, List.getElem?_eq_getElem hi]; exact h _ (List.getElem_mem hi)
  · rw [List.getD_eq_getElem?_getD, List.getElem?_eq_none (by omega)]; intro x hx; simp at hx

theorem getD_mem_row {L : List (List Nat)} {k : Nat} (h : k < L.length) : L.getD k [] ∈ L := by
  rw [List.getD_eq_getElem?_getD, List.getElem?_eq_getElem h]; exact List.getElem_mem h
theorem ext_getD {a b : List Nat} (hl : a.length = b.length) (h : ∀ j, j < a.length → a.getD j 0 = b.getD j 0) : a = b := by
  apply List.ext_getElem hl
  intro j h1 h2
  have := h j h1
  simpa [List.getD_eq_getElem?_getD, h1, h2] using this

/-! ### strings -/
/-! ### sums -/
def colX (L : List (List Nat)) (j : Nat) : Nat := L.foldl (fun acc r => acc ^^^ r.getD j 0) 0
theorem colX_from (j : Nat) : ∀ (L : List (List Nat)) (a : Nat), L.foldl (fun acc r => acc ^^^ r.getD j 0) a = a ^^^ colX L j
  | [], a => by simp [colX]
  | r :: L, a => by
    unfold colX
    rw [List.foldl_cons, List.foldl_cons, colX_from j L, colX_from j L (0 ^^^ r.getD j 0), Nat.zero_xor, Nat.xor_assoc]
theorem colX_append (A B : List (List Nat)) (j : Nat) : colX (A ++ B) j = colX A j ^^^ colX B j := by
  rw [colX, List.foldl_append, colX_from]; rfl
theorem colX_one (r : List Nat) (j : Nat) : colX [r] j = r.getD j 0 := by simp [colX]
theorem colX_nil (j : Nat) : colX [] j = 0 := rfl
theorem colX_lt {L : List (List Nat)} (h : ∀ r ∈ L, Octets r) (j : Nat) : colX L j < 256 := by
  induction L with
  | nil => rw [colX_nil]; decide
  | cons r L ih =>
    rw [show r :: L = [r] ++ L from rfl, colX_append, colX_one]
    exact Nat.xor_lt_two_pow (n := 8) ((h r (by simp)).getD j) (ih fun s hs => h s (List.mem_cons_of_mem _ hs))

def sumS (n : Nat) (L : List (List Nat)) : List Nat := (List.range n).map (colX L)
theorem sumS_length (n : Nat) (L : List (List Nat)) : (sumS n L).length = n := by simp [sumS]
theorem sumS_getD {n : Nat} {L : List (List Nat)} {j : Nat} (h : j < n) : (sumS n L).getD j 0 = colX L j := by simp [sumS, List.getD_eq_getElem?_getD, h]
theorem sumS_nil (n : Nat) : sumS n [] = List.replicate n 0 := by
  apply ext_getD (by simp [sumS])
  intro j hj
  have hj' : j < n := by simpa [sumS] using hj
  rw [sumS_getD hj']
  simp [colX_nil, List.getD_eq_getElem?_getD, hj']
theorem sumS_octets {L : List (List Nat)} (h : ∀ r ∈ L, Octets r) (n : Nat) : Octets (sumS n L) := by
  intro x hx
  obtain ⟨j, _, rfl⟩ := List.mem_map.1 hx
  exact colX_lt h j
theorem sumS_one {r : List Nat} {n : Nat} (h : r.length = n) : sumS n [r] = r := by
  apply ext_getD (by rw [sumS_length, h])
  intro j hj
  rw [sumS_length] at hj
  rw [sumS_getD hj, colX_one]
theorem sumS_snoc {n : Nat} {L : List (List Nat)} {r : List Nat} (h : r.length = n) : sumS n (L ++ [r]) = xorW (sumS n L) r := by
  have hl : (sumS n L).length = r.length := by rw [sumS_length, h]
  apply ext_getD (by rw [sumS_length, xorW_length hl, sumS_length])
  intro j hj
  rw [sumS_length] at hj
  rw [sumS_getD hj, colX_append, colX_one, xorW_getD hl, sumS_getD hj]
theorem sumS_two {n : Nat} {a b : List Nat} (ha : a.length = n) (hb : b.length = n) : sumS n [a, b] = xorW a b := by
  rw [show [a, b] = [a] ++ [b] from rfl, sumS_snoc hb, sumS_one ha]
theorem sumS_congr {n : Nat} {L M : List (List Nat)} (h : ∀ j, j < n → colX L j = colX M j) : sumS n L = sumS n M := by
  apply ext_getD (by rw [sumS_length, sumS_length])
  intro j hj
  rw [sumS_length] at hj
  rw [sumS_getD hj, sumS_getD hj, h j hj]

/-- Are these symbols of that size? -/
def checkS (L : List (List Nat)) (n : Int) : Int := if n < 1 ∨ 64 < n then 1 else if L.all (fun r => decide ((r.length : Int) = n)) then 0 else 2
theorem checkS_zero {L : List (List Nat)} {n : Int} (h : checkS L n = 0) : ∃ m : Nat, n = (m : Int) ∧ 1 ≤ m ∧ m ≤ 64 ∧ ∀ r ∈ L, r.length = m := by
  unfold checkS at h
  split at h
  · cases h
  · rename_i hr
    split at h
    · rename_i ha
      refine ⟨n.toNat, by omega, by omega, by omega, fun r hr' => ?_⟩
      have := of_decide_eq_true (List.all_eq_true.1 ha r hr')
      omega
    · cases h
theorem checkS_ok {L : List (List Nat)} {m : Nat} (h1 : 1 ≤ m) (h2 : m ≤ 64) (h : ∀ r ∈ L, r.length = m) : checkS L (m : Int) = 0 := by
  unfold checkS
  rw [if_neg (by omega), if_pos]
  rw [List.all_eq_true]
  intro r hr
  have := h r hr
  exact decide_eq_true (by omega)

/-! ### picked -/
def pickTo (ws : List Nat) (L : List (List Nat)) (n : Nat) : List (List Nat) := (colsTo ws n).map fun c => L.getD c []
theorem pickTo_zero (ws : List Nat) (L : List (List Nat)) : pickTo ws L 0 = [] := rfl
theorem pickTo_in {ws : List Nat} {L : List (List Nat)} {k : Nat} (h : bitW ws k = true) : pickTo ws L (k + 1) = pickTo ws L k ++ [L.getD k []] := by
  unfold pickTo; rw [colsTo_one ws k h, List.map_append]; rfl
theorem pickTo_out {ws : List Nat} {L : List (List Nat)} {k : Nat} (h : bitW ws k = false) : pickTo ws L (k + 1) = pickTo ws L k := by
  unfold pickTo; rw [colsTo_none ws k h]
theorem pickTo_length (ws : List Nat) (L : List (List Nat)) (n : Nat) : (pickTo ws L n).length = (colsTo ws n).length := by simp [pickTo]
theorem pickTo_mem {ws : List Nat} {L : List (List Nat)} {n : Nat} (hn : n ≤ L.length) : ∀ r ∈ pickTo ws L n, r ∈ L := by
  intro r hr
  obtain ⟨c, hc, rfl⟩ := List.mem_map.1 hr
  have := (mem_colsTo.1 hc).1
  exact getD_mem_row (by omega)

/-- A column behind the last one of n. -/
theorem cols_split (ws : List Nat) (n : Nat) : ∃ B : List Nat, colsTo ws (n + 64 * ws.length) = colsTo ws n ++ B ∧ colsOf ws = colsTo ws n ++ B := by
  have h1 : colsTo ws (64 * ws.length + n) = colsOf ws := colsTo_gap ws (64 * ws.length) n fun c h _ => bitW_out ws c h
  have h2 : ∀ k, ∃ B : List Nat, colsTo ws (n + k) = colsTo ws n ++ B := by
    intro k
    induction k with
    | zero => exact ⟨[], by simp⟩
    | succ k ih =>
      obtain ⟨B, hB⟩ := ih
      refine ⟨B ++ (if bitW ws (n + k) then [n + k] else []), ?_⟩
      rw [← Nat.add_assoc, colsTo_succ, hB, List.append_assoc]
  obtain ⟨B, hB⟩ := h2 (64 * ws.length)
  exact ⟨B, hB, by rw [← h1, Nat.add_comm, hB]⟩
def behindB (ws : List Nat) (n : Nat) : Bool := decide ((colsTo ws n).length < (colsOf ws).length)
theorem behindB_false {ws : List Nat} {n : Nat} (h : behindB ws n = false) : colsOf ws = colsTo ws n := by
  obtain ⟨B, -, hB⟩ := cols_split ws n
  have h' := of_decide_eq_false h
  rw [hB, List.length_append] at h'
  have : B = [] := List.eq_nil_of_length_eq_zero (by omega)
  rw [hB, this, List.append_nil]
theorem behindB_last {ws : List Nat} {n : Nat} (hp : 0 < (colsOf ws).length) : behindB ws n = decide (n ≤ (colsOf ws).getD ((colsOf ws).length - 1) 0) := by
  obtain ⟨B, -, hB⟩ := cols_split ws n
  have hidx : (colsOf ws).length - 1 < (colsOf ws).length := by omega
  have hmem : (colsOf ws).getD ((colsOf ws).length - 1) 0 ∈ colsOf ws := by
    rw [List.getD_eq_getElem?_getD, List.getElem?_eq_getElem hidx]; exact List.getElem_mem hidx
  by_cases h : behindB ws n = true
  · rw [h]
    symm
    apply decide_eq_true
    have h' := of_decide_eq_true h
    rw [hB, List.length_append] at h'
    have hBp : 0 < B.length := by omega
    have hlast : (colsOf ws).getD ((colsOf ws).length - 1) 0 = B.getD (B.length - 1) 0 := by
      rw [hB, List.length_append, List.getD_eq_getElem?_getD, List.getElem?_append_right (by omega), List.getD_eq_getElem?_getD]
      congr 2; omega
    have hBm : B.getD (B.length - 1) 0 ∈ B := by
      rw [List.getD_eq_getElem?_getD, List.getElem?_eq_getElem (by omega)]; exact List.getElem_mem _
    rw [hlast]
    have hin : B.getD (B.length - 1) 0 ∈ colsOf ws := by rw [hB]; exact List.mem_append.2 (.inr hBm)
    apply Nat.le_of_not_lt
    intro hlt
    have h3 : B.getD (B.length - 1) 0 ∈ colsTo ws n := mem_colsTo.2 ⟨hlt, mem_colsOf.1 hin⟩
    have hpw := colsTo_nodup ws (64 * ws.length)
    rw [show colsTo ws (64 * ws.length) = colsOf ws from rfl, hB] at hpw
    exact (List.nodup_append.1 hpw).2.2 _ h3 _ hBm rfl
  · have h0 : behindB ws n = false := by simpa using h
    rw [h0]
    symm
    apply decide_eq_false
    have he := behindB_false h0
    rw [he] at hmem ⊢
    have := (mem_colsTo.1 hmem).1
    omega

theorem pick_xor {u v : List Nat} (h : u.length = v.length) (L : List (List Nat)) (j : Nat) : ∀ n, colX (pickTo (xorW u v) L n) j = colX (pickTo u L n) j ^^^ colX (pickTo v L n) j
  | 0 => by simp [pickTo_zero, colX_nil]
  | n + 1 => by
    have ih := pick_xor h L j n
    have hb := bitW_xor h n
    have self : ∀ x : Nat, x ^^^ x = 0 := Nat.xor_self
    cases ha : bitW u n <;> cases hc : bitW v n <;> rw [ha, hc] at hb
    · rw [pickTo_out hb, pickTo_out ha, pickTo_out hc, ih]
    · rw [pickTo_in hb, pickTo_out ha, pickTo_in hc, colX_append, colX_append, ih, Nat.xor_assoc]
    · rw [pickTo_in hb, pickTo_in ha, pickTo_out hc, colX_append, colX_append, ih, Nat.xor_assoc, Nat.xor_assoc, Nat.xor_comm (colX (pickTo v L n) j)]
    · rw [pickTo_out hb, pickTo_in ha, pickTo_in hc, colX_append, colX_append, ih, Nat.xor_assoc, ← Nat.xor_assoc (colX [L.getD n []] j), Nat.xor_comm (colX [L.getD n []] j) (colX (pickTo v L n) j), Nat.xor_assoc (colX (pickTo v L n) j), self, Nat.xor_zero]

/-! ### pieces -/
def pieceAt (p : List Nat) (m i : Nat) : List Nat := (List.range m).map fun j => p.getD (i * m + j) 0
def splitTo (p : List Nat) (m k : Nat) : List (List Nat) := (List.range k).map (pieceAt p m)
def pieces (p : List Nat) (m : Nat) : Nat := (p.length + m - 1) / m
theorem pieceAt_length (p : List Nat) (m i : Nat) : (pieceAt p m i).length = m := by simp [pieceAt]
theorem pieceAt_octets {p : List Nat} (h : Octets p) (m i : Nat) : Octets (pieceAt p m i) := by
  intro x hx
  obtain ⟨j, _, rfl⟩ := List.mem_map.1 hx
  exact h.getD _
theorem splitTo_succ (p : List Nat) (m k : Nat) : splitTo p m (k + 1) = splitTo p m k ++ [pieceAt p m k] := by simp [splitTo, List.range_succ]
theorem splitTo_length (p : List Nat) (m k : Nat) : (splitTo p m k).length = k := by simp [splitTo]
theorem splitTo_mem {p : List Nat} {m k : Nat} : ∀ r ∈ splitTo p m k, r.length = m := by
  intro r hr
  obtain ⟨i, _, rfl⟩ := List.mem_map.1 hr
  exact pieceAt_length p m i
theorem splitTo_octets {p : List Nat} (h : Octets p) (m k : Nat) : ∀ r ∈ splitTo p m k, Octets r := by
  intro r hr
  obtain ⟨i, _, rfl⟩ := List.mem_map.1 hr
  exact pieceAt_octets h m i
theorem splitTo_getD {p : List Nat} {m k i : Nat} (h : i < k) : (splitTo p m k).getD i [] = pieceAt p m i := by simp [splitTo, List.getD_eq_getElem?_getD, h]
/-- One behind the other. -/
theorem splitTo_flat (p : List Nat) (m : Nat) : ∀ k, (splitTo p m k).flatten = (List.range (k * m)).map fun c => p.getD c 0
  | 0 => by simp [splitTo]
  | k + 1 => by
    rw [splitTo_succ, List.flatten_append, splitTo_flat p m k, Nat.succ_mul, List.range_add, List.map_append]
    simp [pieceAt, List.map_map, Function.comp_def]
theorem pieces_mul {p : List Nat} {m : Nat} (hm : 1 ≤ m) : p.length ≤ pieces p m * m ∧ pieces p m * m < p.length + m := by
  unfold pieces
  have h1 := Nat.div_add_mod (p.length + m - 1) m
  have h2 := Nat.mod_lt (p.length + m - 1) (show 0 < m by omega)
  rw [Nat.mul_comm] at h1
  omega
theorem pieces_lt {p : List Nat} {m k : Nat} (hm : 1 ≤ m) : k * m < p.length ↔ k < pieces p m := by
  obtain ⟨h1, h2⟩ := pieces_mul (p := p) hm
  constructor
  · intro h
    apply Nat.lt_of_not_le
    intro hk
    have := Nat.mul_le_mul_right m hk
    omega
  · intro h
    have := Nat.mul_le_mul_right m (show k + 1 ≤ pieces p m by omega)
    rw [Nat.succ_mul] at this
    omega
end Go.Proofs.Ytgbogglalnafeaa
