import Derived.Test.YtkhdjjcflbdegaaGreatDoorG08
import Derived.Test.YtkhdjjcflbdegaaGreatDoorG03
import Derived.Laws.BytesArg
import Derived.Test.YtkhdjjcflbdegaaGreatDoorG07
import Derived.Test.YtkhdjjcflbdegaaGreatDoorG04

section
/- Symbols as lists of bytes: sums column by column, what is picked, pieces; no program but for the conversion to a string. -/
namespace Go.Proofs.YtkhdjjcflbdegaaGreatDoor
open Go.RowKit Go.Extern.Stop Go.Stop Go.Extern

def byteV (x : Nat) : Value := .int .u8 (x : Int)
def Octets (l : List Nat) : Prop := ∀ x ∈ l, x < 256
def strN (l : List Nat) : ByteArray := strOfNums (l.map Int.ofNat)

theorem info_u8 : (Tryz.prog.info? 5).map (fun i => (i.zero, i.size, i.bytes)) = some (some (.int .u8 0), 1, 1) := by kernel_rfl
theorem info_sym : (Tryz.prog.info? 37).map (fun i => (i.zero, i.size, i.bytes)) = some (some (.slice none 0 0), 1, 24) := by kernel_rfl

theorem bits_xor_u8_nat (a b : Nat) (ha : a < 256) (hb : b < 256) : bits .xor .u8 (a : Int) (b : Int) = ((a ^^^ b : Nat) : Int) := by
  have hx : a ^^^ b < 2 ^ 8 := Nat.xor_lt_two_pow (by omega) (by omega)
  have h1 : (BitVec.ofInt 8 (a : Int)).toNat = a := by
    rw [BitVec.ofInt_natCast, BitVec.toNat_ofNat]; exact Nat.mod_eq_of_lt (by omega)
  have h2 : (BitVec.ofInt 8 (b : Int)).toNat = b := by
    rw [BitVec.ofInt_natCast, BitVec.toNat_ofNat]; exact Nat.mod_eq_of_lt (by omega)
  show IntKind.u8.wrap ((BitVec.ofInt 8 (a : Int) ^^^ BitVec.ofInt 8 (b : Int)).toNat : Int) = _
  rw [BitVec.toNat_xor, h1, h2, IntKind.wrap_u8]
  omega

theorem Octets.getD {l : List Nat} (h : Octets l) (i : Nat) : l.getD i 0 < 256 := by
  by_cases hi : i < l.length
  · rw [List.getD_eq_getElem?_getD, List.getElem?_eq_getElem hi]; exact h _ (List.getElem_mem hi)
  · rw [List.getD_eq_getElem?_getD, List.getElem?_eq_none (by omega)]; decide
theorem Octets.set {l : List Nat} (h : Octets l) (k x : Nat) (hx : x < 256) : Octets (l.set k x) := by
  intro y hy
  rcases List.mem_or_eq_of_mem_set hy with hy | rfl
  · exact h y hy
  · exact hx
theorem Octets.replicate (n : Nat) : Octets (List.replicate n 0) := fun x hx => by have := (List.mem_replicate.1 hx).2; omega
theorem Octets.row {L : List (List Nat)} (h : ∀ r ∈ L, Octets r) (k : Nat) : Octets (L.getD k []) := by
  by_cases hi : k < L.length
  · rw [List.getD_eq_getElem?_getD, List.getElem?_eq_getElem hi]; exact h _ (List.getElem_mem hi)
  · rw [List.getD_eq_getElem?_getD, List.getElem?_eq_none (by omega)]; intro x hx; simp at hx

theorem getD_mem_row {L : List (List Nat)} {k : Nat} (h : k < L.length) : L.getD k [] ∈ L := by
  rw [List.getD_eq_getElem?_getD, List.getElem?_eq_getElem h]; exact List.getElem_mem h
theorem ext_getD {a b : List Nat} (hl : a.length = b.length) (h : ∀ j, j < a.length → a.getD j 0 = b.getD j 0) : a = b := by
  apply List.ext_getElem hl
  intro j h1 h2
  have := h j h1
  simpa [List.getD_eq_getElem?_getD, h1, h2] using this

/-! ### strings -/
theorem ListAt.str {w : World} {v : Value} {l : List Nat} (h : ListAt byteV w v l) : (convert 37 9 v).run Tryz.prog w = .ok (.string (strN l)) w := by
  obtain ⟨a, cap, rfl, hc, -, hcell⟩ := h
  by_cases hp : 0 < l.length
  · obtain ⟨b, off, rfl, hcc⟩ := hcell hp
    refine run_convert_bytes_arg w 37 5 Tryz.underlying37 Tryz.underlying5 b off l.length cap (l.map Int.ofNat) (by simp) (fun i hi => ?_) 9 Tryz.underlying9
    rw [hcc i hi]
    simp [byteV, hi]
  · have hl : l = [] := List.eq_nil_of_length_eq_zero (by omega)
    subst hl
    cases a with
    | none => exact run_convert_bytes_nil w 37 5 Tryz.underlying37 Tryz.underlying5 _ _ 9 Tryz.underlying9
    | some ad =>
      rw [run_convert_bytes_string w 37 9 5 (some ad) _ cap Tryz.underlying37 Tryz.underlying5 Tryz.underlying9]
      exact run_bytesToString w ad 0 cap [] (run_loadCells_list (P := Tryz.prog) w ad [] (fun j v hj => by simp at hj))

/-! ### sums -/
def colX (L : List (List Nat)) (j : Nat) : Nat := L.foldl (fun acc r => acc ^^^ r.getD j 0) 0
theorem colX_from (j : Nat) : ∀ (L : List (List Nat)) (a : Nat), L.foldl (fun acc r => acc ^^^ r.getD j 0) a = a ^^^ colX L j
  | [], a => by simp [colX]
  | r :: L, a => by
    unfold colX
    rw [List.foldl_cons, List.foldl_cons, colX_from j L, colX_from j L (0 ^^^ r.getD j 0), Nat.zero_xor, Nat.xor_assoc]
theorem colX_append (A B : List (List Nat)) (j : Nat) : colX (A ++ B) j = colX A j ^^^ colX B j := by
  rw [colX, List.foldl_append, colX_from]; rfl
theorem colX_one (r : List Nat) (j : Nat) : colX [r] j = r.getD j 0 := by simp [colX]
theorem colX_nil (j : Nat) : colX [] j = 0 := rfl
theorem colX_lt {L : List (List Nat)} (h : ∀ r ∈ L, Octets r) (j : Nat) : colX L j < 256 := by
  induction L with
  | nil => rw [colX_nil]; decide
  | cons r L ih =>
    rw [show r :: L = [r] ++ L from rfl, colX_append, colX_one]
    exact Nat.xor_lt_two_pow (n := 8) ((h r (by simp)).getD j) (ih fun s hs => h s (List.mem_cons_of_mem _ hs))

def sumS (n : Nat) (L : List (List Nat)) : List Nat := (List.range n).map (colX L)
theorem sumS_length (n : Nat) (L : List (List Nat)) : (sumS n L).length = n := by simp [sumS]
theorem sumS_getD {n : Nat} {L : List (List Nat)} {j : Nat} (h : j < n) : (sumS n L).getD j 0 = colX L j := by simp [sumS, List.getD_eq_getElem?_getD, h]
theorem sumS_nil (n : Nat) : sumS n [] = List.replicate n 0 := by
  apply ext_getD (by simp [sumS])
  intro j hj
  have hj' : j < n := by simpa [sumS] using hj
  rw [sumS_getD hj']
  simp [colX_nil, List.getD_eq_getElem?_getD, hj']
theorem sumS_octets {L : List (List Nat)} (h : ∀ r ∈ L, Octets r) (n : Nat) : Octets (sumS n L) := by
  intro x hx
  obtain ⟨j, _, rfl⟩ := List.mem_map.1 hx
  exact colX_lt h j
theorem sumS_one {r : List Nat} {n : Nat} (h : r.length = n) : sumS n [r] = r := by
  apply ext_getD (by rw [sumS_length, h])
  intro j hj
  rw [sumS_length] at hj
  rw [sumS_getD hj, colX_one]
theorem sumS_snoc {n : Nat} {L : List (List Nat)} {r : List Nat} (h : r.length = n) : sumS n (L ++ [r]) = xorW (sumS n L) r := by
  have hl : (sumS n L).length = r.length := by rw [sumS_length, h]
  apply ext_getD (by rw [sumS_length, xorW_length hl, sumS_length])
  intro j hj
  rw [sumS_length] at hj
  rw [sumS_getD hj, colX_append, colX_one, xorW_getD hl, sumS_getD hj]
theorem sumS_two {n : Nat} {a b : List Nat} (ha : a.length = n) (hb : b.length = n) : sumS n [a, b] = xorW a b := by
  rw [show [a, b] = [a] ++ [b] from rfl, sumS_snoc hb, sumS_one ha]
theorem sumS_congr {n : Nat} {L M : List (List Nat)} (h : ∀ j, j < n → colX L j = colX M j) : sumS n L = sumS n M := by
  apply ext_getD (by rw [sumS_length, sumS_length])
  intro j hj
  rw [sumS_length] at hj
  rw [sumS_getD hj, sumS_getD hj, h j hj]

/-- Are these symbols of that size? -/
def checkS (L : List (List Nat)) (n : Int) : Int := if n < 1 ∨ 64 < n then 1 else if L.all (fun r => decide ((r.length : Int) = n)) then 0 else 2
theorem checkS_zero {L : List (List Nat)} {n : Int} (h : checkS L n = 0) : ∃ m : Nat, n = (m : Int) ∧ 1 ≤ m ∧ m ≤ 64 ∧ ∀ r ∈ L, r.length = m := by
  unfold checkS at h
  split at h
  · cases h
  · rename_i hr
    split at h
    · rename_i ha
      refine ⟨n.toNat, by omega, by omega, by omega, fun r hr' => ?_⟩
      have := of_decide_eq_true (List.all_eq_true.1 ha r hr')
      omega
    · cases h
theorem checkS_ok {L : List (List Nat)} {m : Nat} (h1 : 1 ≤ m) (h2 : m ≤ 64) (h : ∀ r ∈ L, r.length = m) : checkS L (m : Int) = 0 := by
  unfold checkS
  rw [if_neg (by omega), if_pos]
  rw [List.all_eq_true]
  intro r hr
  have := h r hr
  exact decide_eq_true (by omega)

/-! ### picked -/
def pickTo (ws : List Nat) (L : List (List Nat)) (n : Nat) : List (List Nat) := (colsTo ws n).map fun c => L.getD c []
theorem pickTo_zero (ws : List Nat) (L : List (List Nat)) : pickTo ws L 0 = [] := rfl
theorem pickTo_in {ws : List Nat} {L : List (List Nat)} {k : Nat} (h : bitW ws k = true) : pickTo ws L (k + 1) = pickTo ws L k ++ [L.getD k []] := by
  unfold pickTo; rw [colsTo_one ws k h, List.map_append]; rfl
theorem pickTo_out {ws : List Nat} {L : List (List Nat)} {k : Nat} (h : bitW ws k = false) : pickTo ws L (k + 1) = pickTo ws L k := by
  unfold pickTo; rw [colsTo_none ws k h]
theorem pickTo_length (ws : List Nat) (L : List (List Nat)) (n : Nat) : (pickTo ws L n).length = (colsTo ws n).length := by simp [pickTo]
theorem pickTo_mem {ws : List Nat} {L : List (List Nat)} {n : Nat} (hn : n ≤ L.length) : ∀ r ∈ pickTo ws L n, r ∈ L := by
  intro r hr
  obtain ⟨c, hc, rfl⟩ := List.mem_map.1 hr
  have := (mem_colsTo.1 hc).1
  exact getD_mem_row (by omega)

/-- A column behind the last one of n. -/
theorem cols_split (ws : List Nat) (n : Nat) : ∃ B : List Nat, colsTo ws (n + 64 * ws.length) = colsTo ws n ++ B ∧ colsOf ws = colsTo ws n ++ B := by
  have h1 : colsTo ws (64 * ws.length + n) = colsOf ws := colsTo_gap ws (64 * ws.length) n fun c h _ => bitW_out ws c h
  have h2 : ∀ k, ∃ B : List Nat, colsTo ws (n + k) = colsTo ws n ++ B := by
    intro k
    induction k with
    | zero => exact ⟨[], by simp⟩
    | succ k ih =>
      obtain ⟨B, hB⟩ := ih
      refine ⟨B ++ (if bitW ws (n + k) then [n + k] else []), ?_⟩
      rw [← Nat.add_assoc, colsTo_succ, hB, List.append_assoc]
  obtain ⟨B, hB⟩ := h2 (64 * ws.length)
  exact ⟨B, hB, by rw [← h1, Nat.add_comm, hB]⟩
def behindB (ws : List Nat) (n : Nat) : Bool := decide ((colsTo ws n).length < (colsOf ws).length)
theorem behindB_false {ws : List Nat} {n : Nat} (h : behindB ws n = false) : colsOf ws = colsTo ws n := by
  obtain ⟨B, -, hB⟩ := cols_split ws n
  have h' := of_decide_eq_false h
  rw [hB, List.length_append] at h'
  have : B = [] := List.eq_nil_of_length_eq_zero (by omega)
  rw [hB, this, List.append_nil]
theorem behindB_last {ws : List Nat} {n : Nat} (hp : 0 < (colsOf ws).length) : behindB ws n = decide (n ≤ (colsOf ws).getD ((colsOf ws).length - 1) 0) := by
  obtain ⟨B, -, hB⟩ := cols_split ws n
  have hidx : (colsOf ws).length - 1 < (colsOf ws).length := by omega
  have hmem : (colsOf ws).getD ((colsOf ws).length - 1) 0 ∈ colsOf ws := by
    rw [List.getD_eq_getElem?_getD, List.getElem?_eq_getElem hidx]; exact List.getElem_mem hidx
  by_cases h : behindB ws n = true
  · rw [h]
    symm
    apply decide_eq_true
    have h' := of_decide_eq_true h
    rw [hB, List.length_append] at h'
    have hBp : 0 < B.length := by omega
    have hlast : (colsOf ws).getD ((colsOf ws).length - 1) 0 = B.getD (B.length - 1) 0 := by
      rw [hB, List.length_append, List.getD_eq_getElem?_getD, List.getElem?_append_right (by omega), List.getD_eq_getElem?_getD]
      congr 2; omega
    have hBm : B.getD (B.length - 1) 0 ∈ B := by
      rw [List.getD_eq_getElem?_getD, List.getElem?_eq_getElem (by omega)]; exact List.getElem_mem _
    rw [hlast]
    have hin : B.getD (B.length - 1) 0 ∈ colsOf ws := by rw [hB]; exact List.mem_append.2 (.inr hBm)
    apply Nat.le_of_not_lt
    intro hlt
    have h3 : B.getD (B.length - 1) 0 ∈ colsTo ws n := mem_colsTo.2 ⟨hlt, mem_colsOf.1 hin⟩
    have hpw := colsTo_nodup ws (64 * ws.length)
    rw [show colsTo ws (64 * ws.length) = colsOf ws from rfl, hB] at hpw
    exact (List.nodup_append.1 hpw).2.2 _ h3 _ hBm rfl
  · have h0 : behindB ws n = false := by simpa using h
    rw [h0]
    symm
    apply decide_eq_false
    have he := behindB_false h0
    rw [he] at hmem ⊢
    have := (mem_colsTo.1 hmem).1
    omega

theorem pick_xor {u v : List Nat} (h : u.length = v.length) (L : List (List Nat)) (j : Nat) : ∀ n, colX (pickTo (xorW u v) L n) j = colX (pickTo u L n) j ^^^ colX (pickTo v L n) j
  | 0 => by simp [pickTo_zero, colX_nil]
  | n + 1 => by
    have ih := pick_xor h L j n
    have hb := bitW_xor h n
    have self : ∀ x : Nat, x ^^^ x = 0 := Nat.xor_self
    cases ha : bitW u n <;> cases hc : bitW v n <;> rw [ha, hc] at hb
    · rw [pickTo_out hb, pickTo_out ha, pickTo_out hc, ih]
    · rw [pickTo_in hb, pickTo_out ha, pickTo_in hc, colX_append, colX_append, ih, Nat.xor_assoc]
    · rw [pickTo_in hb, pickTo_in ha, pickTo_out hc, colX_append, colX_append, ih, Nat.xor_assoc, Nat.xor_assoc, Nat.xor_comm (colX (pickTo v L n) j)]
    · rw [pickTo_out hb, pickTo_in ha, pickTo_in hc, colX_append, colX_append, ih, Nat.xor_assoc, ← Nat.xor_assoc (colX [L.getD n []] j), Nat.xor_comm (colX [L.getD n []] j) (colX (pickTo v L n) j), Nat.xor_assoc (colX (pickTo v L n) j), self, Nat.xor_zero]

/-! ### pieces -/
def pieceAt (p : List Nat) (m i : Nat) : List Nat := (List.range m).map fun j => p.getD (i * m + j) 0
def splitTo (p : List Nat) (m k : Nat) : List (List Nat) := (List.range k).map (pieceAt p m)
def pieces (p : List Nat) (m : Nat) : Nat := (p.length + m - 1) / m
theorem pieceAt_length (p : List Nat) (m i : Nat) : (pieceAt p m i).length = m := by simp [pieceAt]
theorem pieceAt_octets {p : List Nat} (h : Octets p) (m i : Nat) : Octets (pieceAt p m i) := by
  intro x hx
  obtain ⟨j, _, rfl⟩ := List.mem_map.1 hx
  exact h.getD _
theorem splitTo_succ (p : List Nat) (m k : Nat) : splitTo p m (k + 1) = splitTo p m k ++ [pieceAt p m k] := by simp [splitTo, List.range_succ]
theorem splitTo_length (p : List Nat) (m k : Nat) : (splitTo p m k).length = k := by simp [splitTo]
theorem splitTo_mem {p : List Nat} {m k : Nat} : ∀ r ∈ splitTo p m k, r.length = m := by
  intro r hr
  obtain ⟨i, _, rfl⟩ := List.mem_map.1 hr
  exact pieceAt_length p m i
theorem splitTo_octets {p : List Nat} (h : Octets p) (m k : Nat) : ∀ r ∈ splitTo p m k, Octets r := by
  intro r hr
  obtain ⟨i, _, rfl⟩ := List.mem_map.1 hr
  exact pieceAt_octets h m i
theorem splitTo_getD {p : List Nat} {m k i : Nat} (h : i < k) : (splitTo p m k).getD i [] = pieceAt p m i := by simp [splitTo, List.getD_eq_getElem?_getD, h]
/-- One behind the other. -/
theorem splitTo_flat (p : List Nat) (m : Nat) : ∀ k, (splitTo p m k).flatten = (List.range (k * m)).map fun c => p.getD c 0
  | 0 => by simp [splitTo]
  | k + 1 => by
    rw [splitTo_succ, List.flatten_append, splitTo_flat p m k, Nat.succ_mul, List.range_add, List.map_append]
    simp [pieceAt, List.map_map, Function.comp_def]
theorem pieces_mul {p : List Nat} {m : Nat} (hm : 1 ≤ m) : p.length ≤ pieces p m * m ∧ pieces p m * m < p.length + m := by
  unfold pieces
  have h1 := Nat.div_add_mod (p.length + m - 1) m
  have h2 := Nat.mod_lt (p.length + m - 1) (show 0 < m by omega)
  rw [Nat.mul_comm] at h1
  omega
theorem pieces_lt {p : List Nat} {m k : Nat} (hm : 1 ≤ m) : k * m < p.length ↔ k < pieces p m := by
  obtain ⟨h1, h2⟩ := pieces_mul (p := p) hm
  constructor
  · intro h
    apply Nat.lt_of_not_le
    intro hk
    have := Nat.mul_le_mul_right m hk
    omega
  · intro h
    have := Nat.mul_le_mul_right m (show k + 1 ≤ pieces p m by omega)
    rw [Nat.succ_mul] at this
    omega
end Go.Proofs.YtkhdjjcflbdegaaGreatDoor
end

section
/- Rows of words and rows of truths as sets of columns, no program: what is whole, what is packed of truths; matrices. -/
namespace Go.Proofs.YtkhdjjcflbdegaaGreatDoor

theorem bitW_nil : bitW [] = vzero := funext fun c => by unfold bitW vzero; simp
theorem bitW_vadd {a b : List Nat} (h : a.length = b.length) : bitW (xorW a b) = vadd (bitW a) (bitW b) := funext fun c => bitW_xor h c
theorem firstCol_cases (ws : List Nat) : (firstCol ws = -1 ∧ bitW ws = vzero) ∨ ∃ c : Nat, firstCol ws = (c : Int) ∧ Lead (bitW ws) c ∧ c < 64 * ws.length := by
  cases h : (colsOf ws).head? with
  | none =>
    left
    refine ⟨by rw [firstCol, h]; rfl, ?_⟩
    rw [List.head?_eq_none_iff] at h
    funext c
    cases hb : bitW ws c with
    | false => rfl
    | true =>
      have := mem_colsOf.2 hb
      rw [h] at this
      simp at this
  | some c =>
    right
    refine ⟨c, by rw [firstCol, h]; rfl, ?_⟩
    unfold colsOf colsTo at h
    rw [List.head?_filter, List.find?_range_eq_some] at h
    obtain ⟨h1, h2, h3⟩ := h
    exact ⟨⟨h1, fun d hd => by simpa using h3 d hd⟩, List.mem_range.1 h2⟩

theorem words_of_bits {a b : List Nat} {k : Nat} (ha : Word a) (hb : Word b) (la : a.length = k) (lb : b.length = k) (h : bitW a = bitW b) : a = b :=
  Packs.unique (k := k) (p := bitW b) ⟨la, ha, fun c _ => by rw [h]⟩ ⟨lb, hb, fun _ _ => rfl⟩

theorem words_of_vecs {k : Nat} : ∀ {L M : List (List Nat)}, (∀ r ∈ L, Word r ∧ r.length = k) → (∀ r ∈ M, Word r ∧ r.length = k) → L.map bitW = M.map bitW → L = M
  | [], [], _, _, _ => rfl
  | [], _ :: _, _, _, h => by simp at h
  | _ :: _, [], _, _, h => by simp at h
  | a :: L, b :: M, h1, h2, h => by
    simp only [List.map_cons, List.cons.injEq] at h
    rw [words_of_bits (h1 a (by simp)).1 (h2 b (by simp)).1 (h1 a (by simp)).2 (h2 b (by simp)).2 h.1,
      words_of_vecs (fun r hr => h1 r (List.mem_cons_of_mem _ hr)) (fun r hr => h2 r (List.mem_cons_of_mem _ hr)) h.2]

/-! ### whole rows -/
def kOf (n : Nat) : Nat := (n + 63) / 64
theorem sizeI_of {n : Nat} (h : n ≤ 4096) : sizeI (n : Int) = (kOf n : Int) := by
  unfold sizeI kOf; rw [if_neg (by omega)]; omega
theorem kOf_le {n : Nat} (h : n ≤ 4096) : kOf n ≤ 64 := by unfold kOf; omega
def wholeB (n : Nat) (r : List Nat) : Bool := decide (r.length = kOf n) && (List.range (64 * r.length)).all fun c => decide (c < n) || !bitW r c
theorem wholeB_iff {n : Nat} {r : List Nat} : wholeB n r = true ↔ r.length = kOf n ∧ ∀ c, n ≤ c → bitW r c = false := by
  unfold wholeB
  rw [Bool.and_eq_true, decide_eq_true_eq, List.all_eq_true]
  constructor
  · rintro ⟨h1, h2⟩
    refine ⟨h1, fun c hc => ?_⟩
    by_cases hl : c < 64 * r.length
    · have := h2 c (List.mem_range.2 hl)
      simp only [Bool.or_eq_true, decide_eq_true_eq, Bool.not_eq_true'] at this
      exact this.resolve_left (by omega)
    · exact bitW_out _ _ (by omega)
  · rintro ⟨h1, h2⟩
    refine ⟨h1, fun c _ => ?_⟩
    by_cases hc : c < n
    · simp [hc]
    · simp [h2 c (by omega)]
theorem wholeB_len {n : Nat} {r : List Nat} (h : r.length ≠ kOf n) : wholeB n r = false := by
  cases hb : wholeB n r with
  | false => rfl
  | true => exact absurd (wholeB_iff.1 hb).1 h
theorem wholeB_bit {n c : Nat} {r : List Nat} (h : n ≤ c) (hb : bitW r c = true) : wholeB n r = false := by
  cases hw : wholeB n r with
  | false => rfl
  | true => rw [(wholeB_iff.1 hw).2 c h] at hb; cases hb

/-- The last word holds the columns that are too many. -/
theorem whole_last {n : Nat} {r : List Nat} (hw : Word r) (hl : r.length = kOf n) : wholeB n r = (decide (n % 64 = 0) || decide (r.getD (n / 64) 0 / 2 ^ (n % 64) = 0)) := by
  have hx : r.getD (n / 64) 0 < 2 ^ 64 := hw.getD _
  by_cases h0 : n % 64 = 0
  · have : wholeB n r = true := wholeB_iff.2 ⟨hl, fun c hc => bitW_out _ _ (by unfold kOf at hl; omega)⟩
    simp [this, h0]
  · by_cases h1 : r.getD (n / 64) 0 / 2 ^ (n % 64) = 0
    · have : wholeB n r = true := wholeB_iff.2 ⟨hl, fun c hc => by
        by_cases he : c / 64 = n / 64
        · unfold bitW
          rw [he]
          have hlt : r.getD (n / 64) 0 < 2 ^ (n % 64) := by
            apply Nat.lt_of_not_le
            intro hle
            have := Nat.div_pos hle (Nat.two_pow_pos _)
            omega
          exact Nat.testBit_lt_two_pow (Nat.lt_of_lt_of_le hlt (Nat.pow_le_pow_right (by decide) (by omega)))
        · exact bitW_out _ _ (by unfold kOf at hl; omega)⟩
      rw [this, decide_eq_true h1, Bool.or_true]
    · have : wholeB n r = false := by
        cases hb : wholeB n r with
        | false => rfl
        | true =>
          exfalso
          apply h1
          apply Nat.eq_of_testBit_eq
          intro j
          rw [Nat.testBit_div_two_pow, Nat.zero_testBit]
          by_cases hj : n % 64 + j < 64
          · have := (wholeB_iff.1 hb).2 (n + j) (by omega)
            unfold bitW at this
            rw [show (n + j) / 64 = n / 64 by omega, show (n + j) % 64 = n % 64 + j by omega] at this
            rw [Nat.add_comm]
            exact this
          · exact Nat.testBit_lt_two_pow (Nat.lt_of_lt_of_le hx (Nat.pow_le_pow_right (by decide) (by omega)))
      rw [this, decide_eq_false h0, decide_eq_false h1]; rfl

/-- The document's check of a matrix. -/
def checkM (L : List (List Nat)) (n : Int) : Int := if n < 0 ∨ 4096 < n then 1 else if 4096 < L.length then 3 else if L.all (wholeB n.toNat) then 0 else 2
structure MatOk (L : List (List Nat)) (n : Nat) : Prop where
  cols : n ≤ 4096
  rows : L.length ≤ 4096
  words : ∀ r ∈ L, Word r
  whole : ∀ r ∈ L, r.length = kOf n ∧ ∀ c, n ≤ c → bitW r c = false
theorem checkM_zero {L : List (List Nat)} {n : Int} (hw : ∀ r ∈ L, Word r) (h : checkM L n = 0) : ∃ m : Nat, n = (m : Int) ∧ MatOk L m := by
  unfold checkM at h
  split at h
  · cases h
  · split at h
    · cases h
    · split at h
      · rename_i h1 h2 h3
        refine ⟨n.toNat, by omega, ⟨by omega, by omega, hw, fun r hr => ?_⟩⟩
        rw [List.all_eq_true] at h3
        exact wholeB_iff.1 (h3 r hr)
      · cases h
theorem MatOk.check {L : List (List Nat)} {n : Nat} (h : MatOk L n) : checkM L (n : Int) = 0 := by
  unfold checkM
  have h1 := h.cols
  have h2 := h.rows
  rw [if_neg (by omega), if_neg (by omega), if_pos]
  rw [List.all_eq_true]
  intro r hr
  exact wholeB_iff.2 (h.whole r hr)
def vecs (L : List (List Nat)) : List Vec := L.map bitW
theorem vecs_length (L : List (List Nat)) : (vecs L).length = L.length := by simp [vecs]
theorem vecs_getD (L : List (List Nat)) (k : Nat) : (vecs L).getD k vzero = bitW (L.getD k []) := by
  unfold vecs
  simp only [List.getD_eq_getElem?_getD, List.getElem?_map]
  cases L[k]? with
  | none => exact bitW_nil.symm
  | some r => rfl
theorem vecs_take (L : List (List Nat)) (k : Nat) : vecs (L.take k) = (vecs L).take k := by unfold vecs; rw [List.map_take]
theorem vecs_append (L M : List (List Nat)) : vecs (L ++ M) = vecs L ++ vecs M := by unfold vecs; rw [List.map_append]
theorem getD_mem' {L : List (List Nat)} {k : Nat} (h : k < L.length) : L.getD k [] ∈ L := by
  rw [List.getD_eq_getElem?_getD, List.getElem?_eq_getElem h]; exact List.getElem_mem h
theorem MatOk.low {L : List (List Nat)} {n : Nat} (h : MatOk L n) : ∀ r ∈ vecs L, ∀ c, n ≤ c → r c = false := fun r hr c hc => by
  obtain ⟨s, hs, rfl⟩ := List.mem_map.1 hr
  exact (h.whole s hs).2 c hc
theorem MatOk.sub {L M : List (List Nat)} {n : Nat} (h : MatOk L n) (hm : ∀ r ∈ M, r ∈ L) (hl : M.length ≤ 4096) : MatOk M n :=
  ⟨h.cols, hl, fun r hr => h.words r (hm r hr), fun r hr => h.whole r (hm r hr)⟩

/-! ### truths -/
def bitB (b : List Bool) : Vec := fun c => b.getD c false
theorem bitB_nil : bitB [] = vzero := funext fun c => by simp [bitB, vzero]
def truthsB (ws : List Nat) (n : Nat) : List Bool := (List.range n).map (bitW ws)
theorem truthsB_length (ws : List Nat) (n : Nat) : (truthsB ws n).length = n := by simp [truthsB]
theorem range_getD {α : Type} (f : Nat → α) (n k : Nat) (d : α) : ((List.range n).map f).getD k d = if k < n then f k else d := by
  simp only [List.getD_eq_getElem?_getD, List.getElem?_map]
  by_cases h : k < n
  · simp [h]
  · simp [h]
theorem bitB_truths {ws : List Nat} {n : Nat} (h : ∀ c, n ≤ c → bitW ws c = false) : bitB (truthsB ws n) = bitW ws := by
  funext c
  unfold bitB truthsB
  rw [range_getD]
  by_cases hc : c < n
  · rw [if_pos hc]
  · rw [if_neg hc, h c (by omega)]
def sumB (a b : List Bool) : List Bool := (List.range a.length).map fun c => (bitB a c != bitB b c)
theorem sumB_length (a b : List Bool) : (sumB a b).length = a.length := by simp [sumB]
theorem bitB_out {b : List Bool} {c : Nat} (h : b.length ≤ c) : bitB b c = false := by
  unfold bitB; rw [List.getD_eq_getElem?_getD, List.getElem?_eq_none h]; rfl
theorem bitB_sum {a b : List Bool} (h : a.length = b.length) : bitB (sumB a b) = vadd (bitB a) (bitB b) := by
  funext c
  by_cases hc : c < a.length
  · show (sumB a b).getD c false = _
    unfold sumB vadd
    rw [range_getD, if_pos hc]
  · rw [bitB_out (by rw [sumB_length]; omega)]
    unfold vadd
    rw [bitB_out (by omega), bitB_out (by omega)]; rfl

/-- The columns of truths, and what is packed of them. -/
def colsB (b : List Bool) : List Nat := (List.range b.length).filter fun c => bitB b c
def colsBTo (b : List Bool) (k : Nat) : List Nat := (List.range k).filter fun c => bitB b c
theorem colsBTo_one {b : List Bool} {k : Nat} (h : bitB b k = true) : colsBTo b (k + 1) = colsBTo b k ++ [k] := by
  unfold colsBTo; rw [List.range_succ, List.filter_append]; simp [h]
theorem colsBTo_none {b : List Bool} {k : Nat} (h : bitB b k = false) : colsBTo b (k + 1) = colsBTo b k := by
  unfold colsBTo; rw [List.range_succ, List.filter_append]; simp [h]
theorem colsBTo_le (b : List Bool) (k : Nat) : (colsBTo b k).length ≤ k := by
  unfold colsBTo; exact Nat.le_trans (List.length_filter_le _ _) (by simp)
theorem packW_packs (l : List Int) (k : Nat) : Packs (packW l k) k (inP l) := by
  refine ⟨packW_length l k, fun x hx => ?_, fun c hc => ?_⟩
  · unfold packW at hx
    obtain ⟨i, _, rfl⟩ := List.mem_map.1 hx
    exact (bitsDown_spec (inP l) i 64 (Nat.le_refl _)).1
  · unfold bitW packW
    rw [range_getD, if_pos (by omega), (bitsDown_spec (inP l) (c / 64) 64 (Nat.le_refl _)).2 (c % 64) (by omega)]
    congr 1
    omega
def wordsB (b : List Bool) : List Nat := packW ((colsB b).map Int.ofNat) (kOf b.length)
theorem wordsB_spec (b : List Bool) : Word (wordsB b) ∧ (wordsB b).length = kOf b.length ∧ bitW (wordsB b) = bitB b := by
  obtain ⟨h1, h2, h3⟩ := packW_packs ((colsB b).map Int.ofNat) (kOf b.length)
  refine ⟨h2, h1, funext fun c => ?_⟩
  by_cases hc : c < 64 * kOf b.length
  · have := h3 c hc
    unfold wordsB
    rw [this]
    unfold inP
    cases hb : bitB b c with
    | true =>
      have hl : c < b.length := by
        apply Nat.lt_of_not_le
        intro hle
        rw [bitB_out hle] at hb
        cases hb
      apply decide_eq_true
      exact List.mem_map.2 ⟨c, by unfold colsB; simp [hl, hb], rfl⟩
    | false =>
      apply decide_eq_false
      intro hm
      obtain ⟨d, hd, e⟩ := List.mem_map.1 hm
      have : d = c := Int.ofNat.inj e
      subst this
      unfold colsB at hd
      simp [hb] at hd
  · rw [bitW_out _ _ (by unfold wordsB; rw [h1]; omega), bitB_out (by unfold kOf at hc; omega)]

def vecsB (R : List (List Bool)) : List Vec := R.map bitB
theorem vecsB_getD (R : List (List Bool)) (k : Nat) : (vecsB R).getD k vzero = bitB (R.getD k []) := by
  unfold vecsB
  simp only [List.getD_eq_getElem?_getD, List.getElem?_map]
  cases R[k]? with
  | none => exact bitB_nil.symm
  | some r => rfl
theorem vecsB_length (R : List (List Bool)) : (vecsB R).length = R.length := by simp [vecsB]
def allB (L : List (List Nat)) (n : Nat) : List (List Bool) := L.map fun r => truthsB r n
theorem vecsB_all {L : List (List Nat)} {n : Nat} (h : MatOk L n) : vecsB (allB L n) = vecs L := by
  unfold vecsB allB vecs
  rw [List.map_map]
  apply List.map_congr_left
  intro r hr
  exact bitB_truths (h.whole r hr).2
theorem vecs_words (R : List (List Bool)) : vecs (R.map wordsB) = vecsB R := by
  unfold vecs vecsB
  rw [List.map_map]
  apply List.map_congr_left
  intro r _
  exact (wordsB_spec r).2.2
end Go.Proofs.YtkhdjjcflbdegaaGreatDoor
end

section
/- Equations as vectors, a row's columns ahead and its symbol's bits behind, no program: what is fresh, known or clashes; what is known of one column; what symbols make true. -/
namespace Go.Proofs.YtkhdjjcflbdegaaGreatDoor

def proj (n : Nat) (v : Vec) : Vec := fun c => if c < n then v c else false
def unitV (c : Nat) : Vec := fun d => decide (d = c)

theorem proj_add (n : Nat) (u v : Vec) : proj n (vadd u v) = vadd (proj n u) (proj n v) := by
  funext c; simp only [proj, vadd]; by_cases h : c < n
  · rw [if_pos h, if_pos h, if_pos h]
  · rw [if_neg h, if_neg h, if_neg h]; rfl
theorem proj_zero (n : Nat) : proj n vzero = vzero := by funext c; unfold proj vzero; split <;> rfl
theorem proj_low {n c : Nat} {v : Vec} (h : c < n) : proj n v c = v c := if_pos h
theorem proj_proj (n : Nat) (v : Vec) : proj n (proj n v) = proj n v := by funext c; unfold proj; split <;> rfl
theorem proj_same {n : Nat} {v : Vec} (h : ∀ c, n ≤ c → v c = false) : proj n v = v := by
  funext c; unfold proj; split
  · rfl
  · exact (h c (by omega)).symm
theorem proj_eq {n : Nat} {u v : Vec} (h : proj n u = proj n v) {c : Nat} (hc : c < n) : u c = v c := by
  have := congrFun h c
  rwa [proj_low hc, proj_low hc] at this
theorem vadd_eq {u v : Vec} {c : Nat} (h : u c = v c) : vadd u v c = false := by unfold vadd; rw [h]; cases v c <;> rfl

theorem Sp_proj {K : List Vec} {v : Vec} (n : Nat) (h : Sp K v) : Sp (K.map (proj n)) (proj n v) :=
  h (fun x => Sp (K.map (proj n)) (proj n x)) ⟨by rw [proj_zero]; exact Sp.zero _, fun x y hx hy => by rw [proj_add]; exact hx.add hy⟩ fun r hr => .mem (List.mem_map.2 ⟨r, hr, rfl⟩)
theorem Sp_lift {K : List Vec} {x : Vec} {n : Nat} (h : Sp (K.map (proj n)) x) : ∃ v, Sp K v ∧ proj n v = x :=
  h (fun x => ∃ v, Sp K v ∧ proj n v = x) ⟨⟨vzero, Sp.zero _, proj_zero n⟩, fun x y ⟨u, hu, eu⟩ ⟨v, hv, ev⟩ => ⟨vadd u v, hu.add hv, by rw [proj_add, eu, ev]⟩⟩ fun r hr => by
    obtain ⟨s, hs, rfl⟩ := List.mem_map.1 hr
    exact ⟨s, .mem hs, rfl⟩
theorem Sp_snoc {l : List Vec} {r x : Vec} (h : Sp (l ++ [r]) x) : Sp l x ∨ Sp l (vadd x r) :=
  Sp_cons (h.sub fun s hs => by
    rcases List.mem_append.1 hs with h | h
    · exact List.mem_cons_of_mem _ h
    · rw [List.mem_singleton.1 h]; exact List.mem_cons_self ..)

/-- No equation that is kept says something of nothing. -/
def Cons (n : Nat) (K : List Vec) : Prop := ∀ v, Sp K v → (∀ c, c < n → v c = false) → v = vzero
theorem Cons.nil (n : Nat) : Cons n [] := fun _ h _ => Sp_nil h
theorem Cons.unique {n : Nat} {K : List Vec} (h : Cons n K) {u v : Vec} (hu : Sp K u) (hv : Sp K v) (e : proj n u = proj n v) : u = v :=
  vadd_eq_zero (h _ (hu.add hv) fun _ hc => vadd_eq (proj_eq e hc))
theorem Cons.congr {n : Nat} {K M : List Vec} (h : Cons n K) (e : SpEq K M) : Cons n M := fun v hv hz => h v ((e v).2 hv) hz
theorem Cons.snoc {n : Nat} {K : List Vec} {l : Vec} (h : Cons n K) (hl : ¬ Sp (K.map (proj n)) (proj n l)) : Cons n (K ++ [l]) := fun v hv hz => by
  rcases Sp_snoc hv with h1 | h1
  · exact h v h1 hz
  · refine absurd ?_ hl
    have h2 := Sp_proj n h1
    rwa [proj_add, show proj n v = vzero from by funext c; unfold proj; split; exact hz c ‹_›; rfl, vadd_comm, vadd_zero] at h2

open Classical in
/-- What an equation is beside those that are kept: 1 fresh, 2 known, 3 a clash. -/
noncomputable def kindV (n : Nat) (K : List Vec) (l : Vec) : Nat := if Sp (K.map (proj n)) (proj n l) then (if Sp K l then 2 else 3) else 1
theorem kindV_congr {n : Nat} {K M : List Vec} (e : SpEq K M) (l : Vec) : kindV n K l = kindV n M l := by
  have h1 : Sp (K.map (proj n)) (proj n l) ↔ Sp (M.map (proj n)) (proj n l) := by
    constructor <;> intro h
    · obtain ⟨v, hv, ev⟩ := Sp_lift h; rw [← ev]; exact Sp_proj n ((e v).1 hv)
    · obtain ⟨v, hv, ev⟩ := Sp_lift h; rw [← ev]; exact Sp_proj n ((e v).2 hv)
  unfold kindV
  by_cases a : Sp (M.map (proj n)) (proj n l)
  · have a' := h1.2 a
    by_cases b : Sp M l
    · have b' := (e l).2 b
      rw [if_pos a', if_pos b', if_pos a, if_pos b]
    · have b' : ¬ Sp K l := fun h => b ((e l).1 h)
      rw [if_pos a', if_neg b', if_pos a, if_neg b]
  · have a' : ¬ Sp (K.map (proj n)) (proj n l) := fun h => a (h1.1 h)
    rw [if_neg a', if_neg a]
theorem rk_known {K : List Vec} {l : Vec} : rk (K ++ [l]) = rk K ↔ Sp K l := by
  constructor
  · intro h
    apply Classical.byContradiction
    intro hn
    have := rk_out hn
    omega
  · exact rk_in

/-- One column's value: the vector of the span whose columns are that one alone. -/
def ValV (n : Nat) (K : List Vec) (c : Nat) (v : Vec) : Prop := Sp K v ∧ proj n v = unitV c
theorem ValV.unique {n c : Nat} {K : List Vec} (h : Cons n K) {u v : Vec} (hu : ValV n K c u) (hv : ValV n K c v) : u = v := h.unique hu.1 hv.1 (hu.2.trans hv.2.symm)
theorem ValV.congr {n c : Nat} {K M : List Vec} {v : Vec} (h : ValV n K c v) (e : SpEq K M) : ValV n M c v := ⟨(e v).1 h.1, h.2⟩
theorem ValV.exists {n c : Nat} {K : List Vec} (h : Sp (K.map (proj n)) (unitV c)) : ∃ v, ValV n K c v := Sp_lift h
theorem ValV.known {n c : Nat} {K : List Vec} {v : Vec} (h : ValV n K c v) : Sp (K.map (proj n)) (unitV c) := by rw [← h.2]; exact Sp_proj n h.1

/-! ### the plain form tells it -/
def comb (R : List Vec) (p : Nat → Nat) (x : Vec) : Nat → Vec
  | 0 => vzero
  | j + 1 => if x (p j) = true then vadd (comb R p x j) (R.getD j vzero) else comb R p x j
theorem comb_zero (R : List Vec) (p : Nat → Nat) : ∀ j, comb R p vzero j = vzero
  | 0 => rfl
  | j + 1 => by rw [comb, if_neg (by simp [vzero]), comb_zero R p j]
theorem comb_add (R : List Vec) (p : Nat → Nat) (x y : Vec) : ∀ j, comb R p (vadd x y) j = vadd (comb R p x j) (comb R p y j)
  | 0 => (vadd_zero _).symm
  | j + 1 => by
    have ih := comb_add R p x y j
    cases hx : x (p j) <;> cases hy : y (p j)
    · rw [comb, comb, comb, if_neg (by simp [vadd, hx, hy]), if_neg (by simp [hx]), if_neg (by simp [hy]), ih]
    · rw [comb, comb, comb, if_pos (by simp [vadd, hx, hy]), if_neg (by simp [hx]), if_pos hy, ih, vadd_assoc]
    · rw [comb, comb, comb, if_pos (by simp [vadd, hx, hy]), if_pos hx, if_neg (by simp [hy]), ih, vadd_right]
    · rw [comb, comb, comb, if_neg (by simp [vadd, hx, hy]), if_pos hx, if_pos hy, ih, vadd_four]
theorem comb_none {R : List Vec} {p : Nat → Nat} {x : Vec} : ∀ {m}, (∀ j, j < m → x (p j) = false) → comb R p x m = vzero
  | 0, _ => rfl
  | m + 1, h => by
    rw [comb, if_neg (by rw [h m (by omega)]; decide)]
    exact comb_none fun j hj => h j (by omega)
theorem comb_one {R : List Vec} {p : Nat → Nat} {x : Vec} {i : Nat} : ∀ {m}, i < m → x (p i) = true → (∀ j, j < m → j ≠ i → x (p j) = false) → comb R p x m = R.getD i vzero
  | 0, h, _, _ => by omega
  | m + 1, h, h1, h2 => by
    by_cases e : m = i
    · subst e
      rw [comb, if_pos h1, comb_none fun j hj => h2 j (by omega) (by omega), vadd_comm, vadd_zero]
    · rw [comb, if_neg (by rw [h2 m (by omega) e]; decide)]
      exact comb_one (by omega) h1 fun j hj hne => h2 j (by omega) hne

theorem GI.reduced {R : List Vec} {done n : Nat} {p : Nat → Nat} (h : GI R done n p) {x : Vec} (hx : Sp R x) : ∀ c, c < n → vadd x (comb R p x done) c = false := by
  have hcl : Clo fun x => ∀ c, c < n → vadd x (comb R p x done) c = false := ⟨fun c _ => by rw [comb_zero]; rfl, fun x y h1 h2 c hc => by
    rw [comb_add]
    have e1 := h1 c hc
    have e2 := h2 c hc
    unfold vadd at e1 e2 ⊢
    cases hxc : x c <;> cases hyc : y c <;> cases hac : comb R p x done c <;> cases hbc : comb R p y done c <;> simp_all⟩
  refine hx _ hcl fun r hr => ?_
  obtain ⟨k, hk, rfl⟩ := mem_getD.1 hr
  by_cases hkd : k < done
  · have h1 : R.getD k vzero (p k) = true := (h.lead k hkd).1.1
    rw [comb_one hkd h1 fun j hj hne => h.one j k hj hk (fun e => hne e.symm)]
    intro c _
    exact vadd_eq rfl
  · have hz : ∀ c, c < n → R.getD k vzero c = false := fun c hc => h.low k (by omega) hk c hc
    rw [comb_none fun j hj => hz _ (h.lead j hj).2]
    intro c hc
    rw [vadd_zero]
    exact hz c hc

/-- The row that tells a column's value, and none ahead of it has that column. -/
theorem GI.tells {R : List Vec} {done n : Nat} {p : Nat → Nat} (h : GI R done n p) (hc : Cons n R) {c : Nat} (hcn : c < n) {v : Vec} (hv : ValV n R c v) :
    ∃ i, i < done ∧ R.getD i vzero = v ∧ R.getD i vzero c = true ∧ ∀ k, k < R.length → k ≠ i → R.getD k vzero c = false := by
  have hred := h.reduced hv.1
  have hbit : ∀ j, j < done → v (p j) = decide (p j = c) := fun j hj => by
    have := congrFun hv.2 (p j)
    rwa [proj_low (h.lead j hj).2] at this
  by_cases hex : ∃ i, i < done ∧ p i = c
  · obtain ⟨i, hi, rfl⟩ := hex
    have h1 : v (p i) = true := by rw [hbit i hi]; exact decide_eq_true rfl
    have h2 : ∀ j, j < done → j ≠ i → v (p j) = false := fun j hj hne => by
      rw [hbit j hj]
      apply decide_eq_false
      intro e
      rcases Nat.lt_or_gt_of_ne hne with hlt | hgt
      · have := h.rise j i hlt hi; omega
      · have := h.rise i j hgt hj; omega
    rw [comb_one hi h1 h2] at hred
    have hil : i < R.length := by have := h.le; omega
    refine ⟨i, hi, (vadd_eq_zero (hc _ (hv.1.add (.mem (getD_mem hil))) hred)).symm, (h.lead i hi).1.1, fun k hk hne => h.one i k hi hk hne⟩
  · rw [comb_none fun j hj => by rw [hbit j hj]; exact decide_eq_false fun e => hex ⟨j, hj, e⟩] at hred
    have h1 := hred c hcn
    have h2 := congrFun hv.2 c
    rw [proj_low hcn] at h2
    rw [vadd_zero, h2] at h1
    simp [unitV] at h1

/-! ### what symbols make true -/
structure TrueBy (n : Nat) (T : Vec → Vec) : Prop where
  zero : T vzero = vzero
  add : ∀ x y, T (vadd x y) = vadd (T x) (T y)
theorem TrueBy.span {n : Nat} {T : Vec → Vec} (h : TrueBy n T) {K : List Vec} (hK : ∀ l ∈ K, l = T (proj n l)) {v : Vec} (hv : Sp K v) : v = T (proj n v) :=
  hv (fun v => v = T (proj n v)) ⟨by show vzero = _; rw [proj_zero, h.zero], fun x y hx hy => by show vadd x y = _; rw [proj_add, h.add, ← hx, ← hy]⟩ hK
theorem TrueBy.cons {n : Nat} {T : Vec → Vec} (h : TrueBy n T) {K : List Vec} (hK : ∀ l ∈ K, l = T (proj n l)) : Cons n K := fun v hv hz => by
  rw [h.span hK hv, show proj n v = vzero from by funext c; unfold proj; split; exact hz c ‹_›; rfl, h.zero]
open Classical in
/-- It is fresh or known. -/
theorem TrueBy.kind {n : Nat} {T : Vec → Vec} (h : TrueBy n T) {K : List Vec} (hK : ∀ l ∈ K, l = T (proj n l)) {l : Vec} (hl : l = T (proj n l)) : kindV n K l = if Sp (K.map (proj n)) (proj n l) then 2 else 1 := by
  unfold kindV
  by_cases hs : Sp (K.map (proj n)) (proj n l)
  · obtain ⟨v, hv, ev⟩ := Sp_lift hs
    have : v = l := by rw [h.span hK hv, ev, ← hl]
    subst this
    rw [if_pos hs, if_pos hv, if_pos hs]
  · rw [if_neg hs, if_neg hs]
end Go.Proofs.YtkhdjjcflbdegaaGreatDoor
end

section
/- Mathematics of package precode: the rows do not hang on one another. -/
namespace Go.Proofs.YtkhdjjcflbdegaaGreatDoor

/-! ### what a row holds -/
theorem mem_rowL {k s r c : Nat} : c ∈ rowL k s r ↔ c < k + s ∧ ldB k s r c = true := by unfold rowL; rw [List.mem_filter, List.mem_range]
theorem mem_colB {g : List Nat} {j x c : Nat} : c ∈ colB g j x ↔ c < j ∧ (g.getD c 0).testBit x = true := by unfold colB; rw [List.mem_filter, List.mem_range]
theorem mem_rowH {k s : Nat} {g : List Nat} {x c : Nat} : c ∈ rowH k s g x ↔ (c < k + s ∧ (g.getD c 0).testBit x = true) ∨ c = k + s + x := by
  unfold rowH
  rw [List.mem_append, mem_colB, List.mem_singleton]
theorem row_own {k s h i : Nat} {g : List Nat} (hi : i < s + h) : k + i ∈ (rowsP k s h g).getD i [] := by
  by_cases h1 : i < s
  · rw [rowsP_L h1, rowL_eq h1]; simp
  · obtain ⟨x, rfl⟩ : ∃ x, i = s + x := ⟨i - s, by omega⟩
    rw [rowsP_H (by omega), mem_rowH]
    right; omega
theorem row_ahead {k s h i j : Nat} {g : List Nat} (hi : i < s + h) (hj : j < i) : k + i ∉ (rowsP k s h g).getD j [] := by
  by_cases h1 : j < s
  · rw [rowsP_L h1, mem_rowL]
    rintro ⟨h2, h3⟩
    rw [ldB_far (by omega)] at h3
    have := of_decide_eq_true h3
    omega
  · obtain ⟨x, rfl⟩ : ∃ x, j = s + x := ⟨j - s, by omega⟩
    rw [rowsP_H (by omega), mem_rowH]
    rintro (⟨h2, _⟩ | h2) <;> omega
theorem row_lt {k s h i c : Nat} {g : List Nat} (hi : i < s + h) (hc : c ∈ (rowsP k s h g).getD i []) : c < k + s + h := by
  by_cases h1 : i < s
  · rw [rowsP_L h1, mem_rowL] at hc
    omega
  · obtain ⟨x, rfl⟩ : ∃ x, i = s + x := ⟨i - s, by omega⟩
    rw [rowsP_H (by omega), mem_rowH] at hc
    omega
theorem row_nodup {k s h i : Nat} {g : List Nat} (hi : i < s + h) : ((rowsP k s h g).getD i []).Nodup := by
  by_cases h1 : i < s
  · rw [rowsP_L h1]
    exact List.Pairwise.filter _ List.nodup_range
  · obtain ⟨x, rfl⟩ : ∃ x, i = s + x := ⟨i - s, by omega⟩
    rw [rowsP_H (by omega)]
    unfold rowH
    refine nodup_snoc _ _ (List.Pairwise.filter _ List.nodup_range) ?_
    rw [mem_colB]
    omega

/-! ### as words -/
theorem ofNat_mem {l : List Nat} {x : Nat} : (x : Int) ∈ l.map Int.ofNat ↔ x ∈ l := by
  rw [List.mem_map]
  constructor
  · rintro ⟨y, hy, e⟩
    have : y = x := by have e' : (y : Int) = (x : Int) := e; omega
    exact this ▸ hy
  · intro h; exact ⟨x, h, rfl⟩
theorem ofNat_nodup {l : List Nat} (h : l.Nodup) : (l.map Int.ofNat).Nodup := by
  unfold List.Nodup at *
  exact List.Pairwise.map Int.ofNat (fun a b hab e => hab (by have e' : (a : Int) = (b : Int) := e; omega)) h
def packR (n : Nat) (r : List Nat) : List Nat := packW (r.map Int.ofNat) (kOf n)
theorem packR_packs (n : Nat) (r : List Nat) : Packs (packR n r) (kOf n) (inP (r.map Int.ofNat)) := Packs.map _ _
theorem packR_bit {n : Nat} {r : List Nat} (hr : ∀ c ∈ r, c < n) (c : Nat) : bitW (packR n r) c = decide (c ∈ r) := by
  obtain ⟨h1, h2, h3⟩ := packR_packs n r
  rcases Nat.lt_or_ge c (64 * kOf n) with h | h
  · rw [h3 c h]
    exact decide_eq_decide.2 ofNat_mem
  · rw [bitW_out _ _ (by rw [h1]; exact h)]
    symm
    rw [decide_eq_false_iff_not]
    intro hc
    have := hr c hc
    unfold kOf at h
    omega
def packL (n : Nat) (R : List (List Nat)) : List (List Nat) := R.map (packR n)
theorem packL_ok {n : Nat} {R : List (List Nat)} (hn : n ≤ 4096) (hR : R.length ≤ 4096) (h : ∀ r ∈ R, ∀ c ∈ r, c < n) : MatOk (packL n R) n := by
  refine ⟨hn, by simpa [packL] using hR, fun r hr => ?_, fun r hr => ?_⟩
  · obtain ⟨q, hq, rfl⟩ := List.mem_map.1 hr
    exact (packR_packs n q).2.1
  · obtain ⟨q, hq, rfl⟩ := List.mem_map.1 hr
    refine ⟨(packR_packs n q).1, fun c hc => ?_⟩
    rw [packR_bit (h q hq), decide_eq_false_iff_not]
    intro hm
    have := h q hq c hm
    omega
theorem checkI_zero {n : Nat} {r : List Nat} (hn : n ≤ 4096) (hd : r.Nodup) (h : ∀ c ∈ r, c < n) : checkI (r.map Int.ofNat) (n : Int) = 0 := by
  have h1 : outI (r.map Int.ofNat) (n : Int) = false := by
    unfold outI
    rw [List.any_eq_false]
    intro c hc
    obtain ⟨q, hq, rfl⟩ := List.mem_map.1 hc
    have := h q hq
    have e : Int.ofNat q = (q : Int) := rfl
    rw [e]
    simp
    omega
  unfold checkI
  rw [h1, if_neg (by simp; omega), if_pos (ofNat_nodup hd)]

/-! ### the rank -/
theorem rows_rank (k s h : Nat) (g : List Nat) : rk (vecs (packL (k + s + h) (rowsP k s h g))) = s + h := by
  have hlen : (vecs (packL (k + s + h) (rowsP k s h g))).length = s + h := by rw [vecs_length]; simp [packL, rowsP_length]
  have hbit : ∀ j c, j < s + h → (vecs (packL (k + s + h) (rowsP k s h g))).getD j vzero c = decide (c ∈ (rowsP k s h g).getD j []) := fun j c hj => by
    rw [vecs_getD]
    have hjl : j < (rowsP k s h g).length := by rw [rowsP_length]; exact hj
    have e : (packL (k + s + h) (rowsP k s h g)).getD j [] = packR (k + s + h) ((rowsP k s h g).getD j []) := by
      unfold packL
      rw [List.getD_eq_getElem?_getD, List.getElem?_map, List.getD_eq_getElem?_getD, List.getElem?_eq_getElem hjl]
      rfl
    rw [e]
    exact packR_bit (fun c hc => row_lt hj hc) c
  rw [rk_tri (fun i => k + i) (fun i hi => ?_) (fun i j hi hj => ?_), hlen]
  · rw [hlen] at hi
    rw [hbit i _ hi]
    exact decide_eq_true (row_own hi)
  · rw [hlen] at hi
    rw [hbit j _ (by omega)]
    exact decide_eq_false (row_ahead hi hj)
end Go.Proofs.YtkhdjjcflbdegaaGreatDoor
end
