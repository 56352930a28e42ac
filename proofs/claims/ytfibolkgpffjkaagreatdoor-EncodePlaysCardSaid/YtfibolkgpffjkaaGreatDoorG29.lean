import Derived.Test.YtfibolkgpffjkaaGreatDoorG10
import Derived.Test.YtfibolkgpffjkaaGreatDoorG28

section
/- Layer 12's mathematics: a system of full rank, solved column by column with a swap and sums; lines of truths and bytes as vectors. No program. -/
namespace Go.Proofs.YtfibolkgpffjkaaGreatDoor

theorem pivot_ex {R : List Vec} {n c : Nat} (h : GI R c c (fun j => j)) (hc : c < n) (hv : ∃ v, ValV n R c v) : ∃ i, c ≤ i ∧ i < R.length ∧ R.getD i vzero c = true := by
  apply Classical.byContradiction
  intro hn
  have hs : GI R c (c + 1) (fun j => j) := h.skip fun k h1 h2 => by
    cases e : R.getD k vzero c
    · rfl
    · exact absurd ⟨k, h1, h2, e⟩ hn
  obtain ⟨v, hv⟩ := hv
  have hb : ∀ d, d < n → v d = decide (d = c) := fun d hd => by
    have := congrFun hv.2 d
    rwa [proj_low hd] at this
  have h1 := hs.reduced hv.1 c (by omega)
  rw [comb_none fun j hj => by rw [hb j (by omega)]; exact decide_eq_false (by omega), vadd_zero, hb c hc, decide_eq_true rfl] at h1
  cases h1
theorem GI.next {R R' : List Vec} {c i : Nat} (h : GI R c c (fun j => j)) (hi : c ≤ i) (hil : i < R.length) (hc : R.getD i vzero c = true) (hlen : R'.length = R.length)
    (hR : ∀ k, k < R.length → R'.getD k vzero = clf (swf R c i) c c k) : GI R' (c + 1) (c + 1) (fun j => j) := by
  have h1 := h.step hi hil hc hlen hR
  rwa [show (fun j => if j = c then c else j) = (fun j : Nat => j) from funext fun j => by
    by_cases e : j = c
    · rw [if_pos e, e]
    · rw [if_neg e]] at h1
theorem GI.solved {R : List Vec} {n c : Nat} (h : GI R n n (fun j => j)) (hl : R.length = n) (hc : c < n) : ValV n R c (R.getD c vzero) := by
  refine ⟨.mem (getD_mem (by omega)), funext fun d => ?_⟩
  by_cases hd : d < n
  · rw [proj_low hd]
    unfold unitV
    by_cases e : d = c
    · subst e
      rw [decide_eq_true rfl]
      exact (h.lead d hd).1.1
    · rw [decide_eq_false e]
      exact h.one d c hd (by omega) (fun e2 => e e2.symm)
  · unfold proj unitV
    rw [if_neg hd, decide_eq_false (by omega)]
/-- What a solved system tells. -/
theorem GI.all {R K : List Vec} {n size : Nat} (h : GI R n n (fun j => j)) (hl : R.length = n) (e : SpEq R K) : Tells n size K ((List.range n).map fun c => symV n size (R.getD c vzero)) := by
  refine ⟨by simp, fun c hc => ⟨_, (h.solved hl hc).congr e, ?_⟩⟩
  simp [List.getD_eq_getElem?_getD, hc]
/-- What is known by a system is known by one of the same span. -/
theorem val_ex {R K : List Vec} {n c : Nat} (e : SpEq R K) (h : ∃ v, ValV n K c v) : ∃ v, ValV n R c v := by
  obtain ⟨v, hv⟩ := h
  exact ⟨v, hv.congr e.symm⟩

/-! ### lines -/
def lineV (r : List Bool) (s : List Nat) : Vec := bitB (r ++ bitsOf s)
theorem lineV_row {r : List Bool} {s : List Nat} {c : Nat} (h : c < r.length) : lineV r s c = r.getD c false := by
  unfold lineV bitB
  rw [List.getD_eq_getElem?_getD, List.getElem?_append_left h, List.getD_eq_getElem?_getD]
theorem lineV_sym {r : List Bool} {s : List Nat} {n i b : Nat} (hn : r.length = n) (hi : i < s.length) (hb : b < 8) : lineV r s (n + 8 * i + b) = (s.getD i 0).testBit b := by
  unfold lineV bitB bitsOf bitsTo
  rw [List.getD_eq_getElem?_getD, List.getElem?_append_right (by omega), hn, show n + 8 * i + b - n = 8 * i + b by omega]
  rw [List.getElem?_map, List.getElem?_range (by omega)]
  simp only [Option.map_some, Option.getD_some]
  rw [show (8 * i + b) / 8 = i by omega, show (8 * i + b) % 8 = b by omega]
theorem lineV_out {r : List Bool} {s : List Nat} {c : Nat} (h : r.length + 8 * s.length ≤ c) : lineV r s c = false :=
  bitB_out (by rw [List.length_append, bitsOf, bitsTo_length]; exact h)
theorem symV_line {r : List Bool} {s : List Nat} {n : Nat} (hn : r.length = n) (h : Octets s) : symV n s.length (lineV r s) = s := by
  apply ext_getD (by simp [symV])
  intro i hi
  have hi' : i < s.length := by simpa [symV] using hi
  rw [show (symV n s.length (lineV r s)).getD i 0 = byteAt (lineV r s) (n + 8 * i) by simp [symV, List.getD_eq_getElem?_getD, hi']]
  exact byteAt_byte (h.getD i) fun b hb => lineV_sym hn hi' hb
theorem lineV_add {r1 r2 : List Bool} {s1 s2 : List Nat} (hr : r1.length = r2.length) (hs : s1.length = s2.length) : lineV (sumB r1 r2) (xorW s1 s2) = vadd (lineV r1 s1) (lineV r2 s2) := by
  have hl : (sumB r1 r2).length = r1.length := sumB_length _ _
  funext c
  by_cases h1 : c < r1.length
  · have hb := congrFun (bitB_sum hr) c
    rw [lineV_row (by omega)]
    simp only [vadd, lineV_row h1, lineV_row (show c < r2.length by omega)]
    exact hb
  · by_cases h2 : c < r1.length + 8 * s1.length
    · obtain ⟨i, b, hi, hb, e⟩ : ∃ i b, i < s1.length ∧ b < 8 ∧ c = r1.length + 8 * i + b := ⟨(c - r1.length) / 8, (c - r1.length) % 8, by omega, by omega, by omega⟩
      subst e
      rw [lineV_sym hl (by rw [xorW_length hs]; exact hi) hb, xorW_getD hs, Nat.testBit_xor]
      simp only [vadd, lineV_sym rfl hi hb, lineV_sym hr.symm (show i < s2.length by omega) hb]
    · rw [lineV_out (by rw [hl, xorW_length hs]; omega)]
      simp only [vadd, lineV_out (show r1.length + 8 * s1.length ≤ c by omega), lineV_out (show r2.length + 8 * s2.length ≤ c by omega)]
      rfl
/-- A row's truths as the equation of its places. -/
theorem lineV_eq {l : Nat} {r : List Bool} {R y : List Nat} (hl : r.length = l) (hR : ∀ c ∈ R, c < l) (h : ∀ c, c < l → r.getD c false = decide (c ∈ R)) : lineV r y = eqL l R y := by
  have e : r = truthsB (packR l R) l := by
    apply List.ext_getElem (by rw [truthsB_length, hl])
    intro c h1 h2
    have h3 := h c (by omega)
    rw [List.getD_eq_getElem?_getD, List.getElem?_eq_getElem h1, Option.getD_some] at h3
    rw [h3]
    simp only [truthsB, List.getElem_map, List.getElem_range]
    exact (packR_bit hR c).symm
  unfold eqL longV longB lineV
  rw [← e]

/-! ### a system of full rank -/
theorem span_full {L : List Vec} {n c : Nat} (hlow : ∀ r ∈ L, ∀ d, n ≤ d → r d = false) (hr : rk L = n) (hc : c < n) : Sp L (unitV c) := by
  apply Classical.byContradiction
  intro hn
  have h1 := rk_out hn
  have h2 : rk (L ++ [unitV c]) ≤ n := rk_le_cols fun r hr d hd => by
    rcases List.mem_append.1 hr with h | h
    · exact hlow r h d hd
    · rw [List.mem_singleton.1 h]
      exact decide_eq_false (by omega)
  omega
theorem val_full {k s h l p seed size : Nat} {src : Nat → List Nat} (hl : l = k + s + h) {j : Nat} (hr : rankA k s h l p seed (List.range j) = l) {c : Nat} (hc : c < l) : ∃ v, ValV l (sysE k s h l p seed size src j) c v := by
  refine ValV.exists ?_
  rw [sysE_proj hl]
  refine span_full (fun r hr d hd => ?_) hr hc
  obtain ⟨q, hq, rfl⟩ := List.mem_map.1 hr
  unfold rowVec
  refine decide_eq_false fun hm => ?_
  have := (rowsA_in hl q hq).1 d hm
  omega
theorem Tells.unique {l size : Nat} {K : List Vec} {V U : List (List Nat)} (hc : Cons l K) (h : Tells l size K V) (h' : Tells l size K U) : V = U := by
  apply List.ext_getElem (by rw [h.1, h'.1])
  intro c h1 h2
  obtain ⟨x, hx, ex⟩ := h.2 c (by rw [← h.1]; exact h1)
  obtain ⟨y, hy, ey⟩ := h'.2 c (by rw [← h.1]; exact h1)
  rw [List.getD_eq_getElem?_getD, List.getElem?_eq_getElem h1, Option.getD_some] at ex
  rw [List.getD_eq_getElem?_getD, List.getElem?_eq_getElem h2, Option.getD_some] at ey
  rw [ex, ey, hx.unique hc hy]
/-- Sums of sums. -/
theorem colX_xor {A B C : Nat → List Nat} {j : Nat} : ∀ r : List Nat, (∀ c ∈ r, (C c).getD j 0 = (A c).getD j 0 ^^^ (B c).getD j 0) → colX (r.map C) j = colX (r.map A) j ^^^ colX (r.map B) j
  | [], _ => by simp [colX_nil]
  | c :: r, h => by
    have ih := colX_xor r fun d hd => h d (List.mem_cons_of_mem _ hd)
    have hc := h c List.mem_cons_self
    have e : ∀ D : Nat → List Nat, colX ((c :: r).map D) j = (D c).getD j 0 ^^^ colX (r.map D) j := fun D => by
      rw [List.map_cons, show D c :: r.map D = [D c] ++ r.map D from rfl, colX_append, colX_one]
    rw [e A, e B, e C, ih, hc]
    rw [Nat.xor_assoc, Nat.xor_assoc, ← Nat.xor_assoc ((B c).getD j 0), ← Nat.xor_assoc (colX (r.map A) j), Nat.xor_comm ((B c).getD j 0)]
theorem sum_xor {size : Nat} {A B C : Nat → List Nat} {r : List Nat} (hA : ∀ c ∈ r, (A c).length = size) (hB : ∀ c ∈ r, (B c).length = size) (h : ∀ c ∈ r, xorW (A c) (B c) = C c) :
    xorW (sumS size (r.map A)) (sumS size (r.map B)) = sumS size (r.map C) := by
  have hl : (sumS size (r.map A)).length = (sumS size (r.map B)).length := by rw [sumS_length, sumS_length]
  apply ext_getD (by rw [xorW_length hl, sumS_length, sumS_length])
  intro j hj
  have hj : j < size := by rwa [xorW_length hl, sumS_length] at hj
  rw [xorW_getD hl, sumS_getD hj, sumS_getD hj, sumS_getD hj]
  exact (colX_xor r fun c hc => by rw [← h c hc, xorW_getD (by rw [hA c hc, hB c hc])]).symm
/-- The encoding symbol of a number: what the middle symbols say of it. -/
theorem symbol_sums {k s h l p seed size j e : Nat} {a b : Nat → List Nat} {A B C : List (List Nat)} (hab : ∀ e, e < j → (a e).length = (b e).length) (hl : l = k + s + h)
    (hA : Tells l size (sysE k s h l p seed size a j) A) (hB : Tells l size (sysE k s h l p seed size b j) B) (hC : Tells l size (sysE k s h l p seed size (fun e => xorW (a e) (b e)) j) C)
    (cA : Cons l (sysE k s h l p seed size a j)) (cB : Cons l (sysE k s h l p seed size b j)) (cC : Cons l (sysE k s h l p seed size (fun e => xorW (a e) (b e)) j)) :
    xorW (sumS size ((rowE l p seed e).map fun c => A.getD c [])) (sumS size ((rowE l p seed e).map fun c => B.getD c [])) = sumS size ((rowE l p seed e).map fun c => C.getD c []) := by
  have hrow : ∀ {V : List (List Nat)} {K : List Vec}, Tells l size K V → ∀ c ∈ rowE l p seed e, (V.getD c []).length = size := fun {V K} h c hc => by
    have hcl : c < V.length := by rw [h.1]; exact rowE_lt c hc
    exact (h.row _ (by rw [List.getD_eq_getElem?_getD, List.getElem?_eq_getElem hcl]; exact List.getElem_mem hcl)).1
  exact sum_xor (hrow hA) (hrow hB) fun c hc => tells_sum hab hl hA hB hC cA cB cC (rowE_lt c hc)
/-- The first encoding symbols are the source symbols. -/
theorem symbol_source {k s h l p seed size j e : Nat} {src : Nat → List Nat} {V : List (List Nat)} (hV : Tells l size (sysE k s h l p seed size src j) V) (hc : Cons l (sysE k s h l p seed size src j)) (he : e < j) (hy : (src e).length = size) (ho : Octets (src e)) :
    sumS size ((rowE l p seed e).map fun c => V.getD c []) = src e :=
  hV.holds hc rowE_lt (rowE_nodup l p seed e) hy ho (.mem (mem_sysE he))
end Go.Proofs.YtfibolkgpffjkaaGreatDoor
end

section
/- Package encode: an encoder in memory (EncAt); New. -/
namespace Go.Proofs.YtfibolkgpffjkaaGreatDoor
open Go.RowKit Go.Extern.Stop Go.Stop Go.Extern

def nameEnNew : ByteArray := ⟨#[101, 110, 99, 111, 100, 101, 46, 78, 101, 119]⟩
def nameEnSym : ByteArray := ⟨#[101, 110, 99, 111, 100, 101, 46, 83, 121, 109, 98, 111, 108]⟩

/-- An encoder in a block of its own. -/
def EncBox (W : World) (g : Nat) (k s h l p sd size : Int) (vm : Value) : Prop :=
  W.heap[g]? = some (.cells #[.int .i64 k, .int .i64 s, .int .i64 h, .int .i64 l, .int .i64 p, .int .i64 sd, .int .i64 size, vm] 68 (0, 0))
section
variable {W W' : World} {g : Nat} {k s h l p sd size : Int} {vm : Value}
theorem EncBox.lt (b : EncBox W g k s h l p sd size vm) : g < W.heap.size := (Array.getElem?_eq_some_iff.1 b).1
theorem EncBox.mono (b : EncBox W g k s h l p sd size vm) (hb : Below W.heap.size W W') : EncBox W' g k s h l p sd size vm := (hb.block g b.lt).trans b
theorem EncBox.cells (b : EncBox W g k s h l p sd size vm) :
    W.cell? ⟨g, 0, none⟩ = some (.int .i64 k) ∧ W.cell? ⟨g, 1, none⟩ = some (.int .i64 s) ∧ W.cell? ⟨g, 2, none⟩ = some (.int .i64 h) ∧ W.cell? ⟨g, 3, none⟩ = some (.int .i64 l) ∧ W.cell? ⟨g, 4, none⟩ = some (.int .i64 p) ∧
      W.cell? ⟨g, 5, none⟩ = some (.int .i64 sd) ∧ W.cell? ⟨g, 6, none⟩ = some (.int .i64 size) ∧ W.cell? ⟨g, 7, none⟩ = some vm :=
  ⟨cell_of_heap b rfl, cell_of_heap b rfl, cell_of_heap b rfl, cell_of_heap b rfl, cell_of_heap b rfl, cell_of_heap b rfl, cell_of_heap b rfl, cell_of_heap b rfl⟩
end

/-- An encoder of the source symbols M, all of it in memory from block B on. -/
structure EncAt (w : World) (B g k s h l p sd size : Nat) (vm : Value) (V M : List (List Nat)) : Prop where
  box : EncBox w g k s h l p sd size vm
  mid : MatFresh byteV 5 B 38 w vm V
  ge : B ≤ g
  of : OfP k s h l p
  seed : IsSeed k s h l p sd
  k1 : 1 ≤ k
  k2 : k ≤ 128
  z1 : 1 ≤ size
  z2 : size ≤ 64
  tells : Tells l size (sysE k s h l p sd size (fun t => M.getD t []) k) V
  cons : Cons l (sysE k s h l p sd size (fun t => M.getD t []) k)
section
variable {w w' : World} {B g k s h l p sd size : Nat} {vm : Value} {V M : List (List Nat)}
theorem EncAt.mono (e : EncAt w B g k s h l p sd size vm V M) (hb : Below w.heap.size w w') : EncAt w' B g k s h l p sd size vm V M :=
  ⟨e.box.mono hb, e.mid.mono hb, e.ge, e.of, e.seed, e.k1, e.k2, e.z1, e.z2, e.tells, e.cons⟩
/-- What is written ahead of it leaves it as it is. -/
theorem EncAt.far (e : EncAt w B g k s h l p sd size vm V M) (hs : ∀ x, B ≤ x → x < w.heap.size → w'.heap[x]? = w.heap[x]?) : EncAt w' B g k s h l p sd size vm V M :=
  ⟨(hs g e.ge e.box.lt).trans e.box, e.mid.far hs, e.ge, e.of, e.seed, e.k1, e.k2, e.z1, e.z2, e.tells, e.cons⟩
/-- The encoding symbol of a number. -/
noncomputable def symE (l p sd size : Nat) (V : List (List Nat)) (e : Nat) : List Nat := sumS size ((rowE l p sd e).map fun c => V.getD c [])
theorem symE_length (l p sd size : Nat) (V : List (List Nat)) (e : Nat) : (symE l p sd size V e).length = size := sumS_length _ _
theorem EncAt.octets (e : EncAt w B g k s h l p sd size vm V M) (n : Nat) : Octets (symE l p sd size V n) := sumS_octets (fun r hr => by
  obtain ⟨c, hc, rfl⟩ := List.mem_map.1 hr
  have hcl : c < V.length := by rw [e.tells.1]; exact rowE_lt c hc
  exact (e.tells.row _ (getD_mem_row hcl)).2) _
/-- P12.3. -/
theorem EncAt.source (e : EncAt w B g k s h l p sd size vm V M) (hM : M.length = k) (ho : ∀ r ∈ M, r.length = size ∧ Octets r) {n : Nat} (hn : n < k) : symE l p sd size V n = M.getD n [] :=
  symbol_source e.tells e.cons hn (ho _ (getD_mem_row (by omega))).1 (ho _ (getD_mem_row (by omega))).2
end

set_option maxRecDepth 1000000 in
set_option maxHeartbeats 4000000 in
theorem EnNew_ok {w : World} (k size : Nat) (v : Value) (M : List (List Nat)) (hv : MatAt byteV w v M) (hk : M.length = k) (hk1 : 1 ≤ k) (hk2 : k ≤ 128) (hz1 : 1 ≤ size) (hz2 : size ≤ 64) (ho : ∀ r ∈ M, r.length = size ∧ Octets r) (hT : DgTab w) (hB : Tab w) :
    Calls Tryz.prog 11 #[v, .int .i64 (size : Int)] w fun e w' => ∃ g s h l p sd vm V, e = .returned (.tuple #[.pointer (some ⟨g, 0, none⟩), .nilIface]) ∧ EncAt w' w.heap.size g k s h l p sd size vm V M ∧ Below w.heap.size w w' := by
  have HT := Lib.hid hT
  have HBT := Lib.hid hB
  have HV := Lib.hid hv
  have HK := Lib.hid hk
  have HO := Lib.hid ho
  obtain ⟨av, cv, rfl, -, -, -⟩ := hv.opens
  rw [hk] at HV ⊢
  clear hT hB hv hk ho
  go_enter Tryz.func11, Tryz.ntmps11
  go_wp2_with fail
  refine (Of_in k hk1 hk2).mono ?_
  rintro e w1 ⟨s, h, l, p, rfl, hof, hb1⟩
  have HOF := Lib.hid hof
  obtain ⟨W, hW, hbW, hby⟩ := par_laid w1 k s h l p
  have HW := Lib.hid hW
  have HB1 := Lib.hid (hb1.trans (hbW.mono hb1.size))
  have HX1 := Lib.hid hby
  have HSE := Lib.hid (Seed_ok (w := W) k hk1 hk2 (PairsAt.mono HT.out HB1.out) (HBT.out.mono HB1.out))
  clear hof hW hbW hby hb1
  unfold parV parC
  go_upto_region 2 with fail
  rw [← HW.out]
  obtain ⟨g1, hg1⟩ : ∃ g1, w1.heap.size = g1 := ⟨_, rfl⟩
  rw [hg1] at HX1 ⊢
  clear hg1
  obtain ⟨c0, c1, c2, c3, c4⟩ := HX1.out.cells
  go_wp2_with fail
  refine HSE.out.mono ?_
  rintro e w2 ⟨s', h', l', p', sd, rfl, hof, hsd, hb2⟩
  obtain ⟨rfl, rfl, rfl, rfl⟩ := hof.unique HOF.out
  have HSD := Lib.hid hsd
  have HX2 := Lib.hid (HX1.out.mono hb2)
  have HB2 := Lib.hid (HB1.out.trans (hb2.mono HB1.out.size))
  have HMI := Lib.hid (Middle_full (w := w2) k s' h' l' p' sd size _ M HOF.out hk1 hk2 hsd.1 hz1 hz2 (HV.out.mono HB2.out) HK.out HO.out (PairsAt.mono HT.out HB2.out) (HBT.out.mono HB2.out) hsd.2.1)
  unfold parV parC at HMI
  clear hof hsd hb2 c0 c1 c2 c3 c4
  obtain ⟨c0, c1, c2, c3, c4⟩ := HX2.out.cells
  go_wp2_with fail
  refine HMI.out.mono ?_
  rintro e w3 ⟨vm, V, rfl, hm3, ht3, hc3, hb3⟩
  have HX3 := Lib.hid (HX2.out.mono hb3)
  have HB3 := Lib.hid (HB2.out.trans (hb3.mono HB2.out.size))
  have HM3 := Lib.hid (hm3.below HB2.out.size)
  have HT3 := Lib.hid ht3
  have HC3 := Lib.hid hc3
  obtain ⟨am, cm, rfl, -, -, -⟩ := hm3.own.at.opens
  rw [ht3.1] at HM3 ⊢
  clear hm3 ht3 hc3 hb3 c0 c1 c2 c3 c4
  obtain ⟨c0, c1, c2, c3, c4⟩ := HX3.out.cells
  go_wp2
  go_ret2
  have hba : ∀ o : Obj, Below w3.heap.size w3 (w3.alloc o) := fun o => (Below.refl _ _).alloc (Nat.le_refl _) _
  exact ⟨w3.heap.size, s', h', l', p', sd, _, V, rfl, ⟨heap_alloc_new w3 _, HM3.out.mono (hba _), HB3.out.size, HOF.out, HSD.out, hk1, hk2, hz1, hz2, HT3.out, HC3.out⟩, HB3.out.trans ((hba _).mono HB3.out.size)⟩

set_option maxRecDepth 1000000 in
set_option maxHeartbeats 4000000 in
/-- Of too few, or too many, there is none. -/
theorem EnNew_many {w : World} (v : Value) (M : List (List Nat)) (size : Int) (hv : MatAt byteV w v M) (hk : M.length < 1 ∨ 128 < M.length) :
    Calls Tryz.prog 11 #[v, .int .i64 size] w (NoSays 1 nameEnNew (.pointer none) w) := by
  have HO : Hid (∀ V, Calls Tryz.prog 24 #[.int .i64 (M.length : Int)] V (NoSays 1 nameOf (.agg #[.int .i64 0, .int .i64 0, .int .i64 0, .int .i64 0, .int .i64 0]) V)) := Lib.hid fun V => Of_out _ (by omega)
  obtain ⟨av, cv, rfl, -, -, -⟩ := hv.opens
  clear hv hk
  go_enter Tryz.func11, Tryz.ntmps11
  go_wp2_with fail
  refine (HO.out _).mono ?_
  rintro e w1 ⟨E, rfl, hea, hb1⟩
  obtain ⟨W, hW, hbW, hby⟩ := par_laid w1 0 0 0 0 0
  have HW := Lib.hid hW
  have HB1 := Lib.hid (hb1.trans (hbW.mono hb1.size))
  obtain ⟨ls, hch⟩ : ∃ ls, Chain w1 1 (nameOf :: ls) E := (hea.resolve_left (by rintro ⟨h, -⟩; cases h)).2
  have HCH := Lib.hid (hch.mono hbW)
  obtain ⟨u, x, rfl⟩ := hch.iface
  clear hea hb1 hW hbW hby hch
  go_upto_region 2 with fail
  rw [← HW.out]
  go_wp2_with fail
  refine (Wrap_chain nameEnNew 1 _ _ _ HCH.out).mono ?_
  rintro e w2 ⟨E2, rfl, hch, hb2⟩
  have HB2 := Lib.hid (HB1.out.trans (hb2.mono HB1.out.size))
  have HCH2 := Lib.hid hch
  obtain ⟨u2, x2, rfl⟩ := hch.iface
  clear hch hb2
  go_wp2
  go_ret2
  exact ⟨_, rfl, .inr ⟨by decide, _, HCH2.out⟩, HB2.out⟩

set_option maxRecDepth 1000000 in
set_option maxHeartbeats 4000000 in
/-- Where the size, or a symbol, is not what it should be. -/
theorem EnNew_form {w : World} (k : Nat) (v : Value) (M : List (List Nat)) (size n : Int) (hn : n ≠ 0) (hv : MatAt byteV w v M) (hk : M.length = k) (hk1 : 1 ≤ k) (hk2 : k ≤ 128) (hT : DgTab w) (hB : Tab w)
    (hm : ∀ (V : World) (s h l p sd : Nat), OfP k s h l p → sd < 65536 → Below w.heap.size w V → Calls Tryz.prog 27 #[parV k s h l p, .int .i64 (sd : Int), v, .int .i64 size] V (NoSays n nameSMiddle nilS V)) :
    Calls Tryz.prog 11 #[v, .int .i64 size] w (NoSays n nameEnNew (.pointer none) w) := by
  have HT := Lib.hid hT
  have HBT := Lib.hid hB
  have HM := Lib.hid hm
  have HN := Lib.hid hn
  unfold parV parC at HM
  obtain ⟨av, cv, rfl, -, -, -⟩ := hv.opens
  rw [hk] at HM ⊢
  clear hT hB hv hk hm hn
  go_enter Tryz.func11, Tryz.ntmps11
  go_wp2_with fail
  refine (Of_in k hk1 hk2).mono ?_
  rintro e w1 ⟨s, h, l, p, rfl, hof, hb1⟩
  have HOF := Lib.hid hof
  obtain ⟨W, hW, hbW, hby⟩ := par_laid w1 k s h l p
  have HW := Lib.hid hW
  have HB1 := Lib.hid (hb1.trans (hbW.mono hb1.size))
  have HX1 := Lib.hid hby
  have HSE := Lib.hid (Seed_ok (w := W) k hk1 hk2 (PairsAt.mono HT.out HB1.out) (HBT.out.mono HB1.out))
  clear hof hW hbW hby hb1
  unfold parV parC
  go_upto_region 2 with fail
  rw [← HW.out]
  obtain ⟨g1, hg1⟩ : ∃ g1, w1.heap.size = g1 := ⟨_, rfl⟩
  rw [hg1] at HX1 ⊢
  clear hg1
  obtain ⟨c0, c1, c2, c3, c4⟩ := HX1.out.cells
  go_wp2_with fail
  refine HSE.out.mono ?_
  rintro e w2 ⟨s', h', l', p', sd, rfl, hof, hsd, hb2⟩
  obtain ⟨rfl, rfl, rfl, rfl⟩ := hof.unique HOF.out
  have HX2 := Lib.hid (HX1.out.mono hb2)
  have HB2 := Lib.hid (HB1.out.trans (hb2.mono HB1.out.size))
  have HMI := Lib.hid (HM.out w2 s' h' l' p' sd HOF.out hsd.1 HB2.out)
  clear hof hsd hb2 c0 c1 c2 c3 c4
  obtain ⟨c0, c1, c2, c3, c4⟩ := HX2.out.cells
  go_wp2_with fail
  refine HMI.out.mono ?_
  rintro e w3 ⟨E, rfl, hea, hb3⟩
  obtain ⟨ls, hch⟩ : ∃ ls, Chain w3 n (nameSMiddle :: ls) E := (hea.resolve_left (by rintro ⟨h, -⟩; exact HN.out h)).2
  have HB3 := Lib.hid (HB2.out.trans (hb3.mono HB2.out.size))
  have HCH := Lib.hid hch
  obtain ⟨u, x, rfl⟩ := hch.iface
  clear hea hb3 hch c0 c1 c2 c3 c4
  go_wp2_with fail
  refine (Wrap_chain nameEnNew n _ _ _ HCH.out).mono ?_
  rintro e w4 ⟨E2, rfl, hch, hb4⟩
  have HB4 := Lib.hid (HB3.out.trans (hb4.mono HB3.out.size))
  have HCH2 := Lib.hid hch
  obtain ⟨u2, x2, rfl⟩ := hch.iface
  clear hch hb4
  go_wp2
  go_ret2
  exact ⟨_, rfl, .inr ⟨HN.out, _, HCH2.out⟩, HB4.out⟩
end Go.Proofs.YtfibolkgpffjkaaGreatDoor
end
