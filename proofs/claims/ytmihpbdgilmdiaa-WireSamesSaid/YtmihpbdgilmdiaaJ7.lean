import Derived.Test.YtmihpbdgilmdiaaCkC
import Derived.Test.YtmihpbdgilmdiaaSyMath
import Derived.Test.YtmihpbdgilmdiaaOwn
import Derived.Lib.AppendZerosOnto
import Derived.Lib.AppendZeros
import Derived.Laws.Append
import Derived.Lib.LazyBuf

section
/- The landed package check: the register by a byte, the sum's four bytes, Sum (layer 15). -/
namespace Go.Proofs.Ytmihpbdgilmdiaa
open Go.RowKit Go.Extern.Stop Go.Stop Go.Extern

theorem ck_and_one (x : Nat) (hx : x < 4294967296) : bits .and .u32 (x : Int) 1 = ((x % 2 : Nat) : Int) := by
  have h1 : (BitVec.ofInt 32 (x : Int)).toNat = x := by
    rw [BitVec.ofInt_natCast, BitVec.toNat_ofNat]; exact Nat.mod_eq_of_lt (by omega)
  have h2 : (BitVec.ofInt 32 1).toNat = 1 := by decide
  show IntKind.u32.wrap ((BitVec.ofInt 32 (x : Int) &&& BitVec.ofInt 32 1).toNat : Int) = _
  rw [BitVec.toNat_and, h1, h2, Nat.and_one_is_mod, IntKind.wrap_u32]
  omega
theorem ck_not (x : Nat) (hx : x < 4294967296) : bits BinOp.xor IntKind.u32 (if IntKind.u32.signed = true then -1 else IntKind.u32.max) (x : Int) = ((4294967295 - x : Nat) : Int) := by
  have hx2 : 4294967295 ^^^ x = 4294967295 - x := by rw [Nat.xor_comm, crc_turn hx]
  have h1 : (BitVec.ofInt 32 (x : Int)).toNat = x := by
    rw [BitVec.ofInt_natCast, BitVec.toNat_ofNat]; exact Nat.mod_eq_of_lt (by omega)
  have h2 : (BitVec.ofInt 32 (if IntKind.u32.signed = true then -1 else IntKind.u32.max)).toNat = 4294967295 := by decide
  show IntKind.u32.wrap ((BitVec.ofInt 32 _ ^^^ BitVec.ofInt 32 (x : Int)).toNat : Int) = _
  rw [BitVec.toNat_xor, h1, h2, hx2, IntKind.wrap_u32]
  omega

theorem crc_zeros (n j : Nat) : crcR n (List.replicate (j + 1) false) = crcS (crcR n (List.replicate j false)) false := by
  rw [List.replicate_succ', crcR_append]; rfl
theorem crc_step0 (m : Nat) : crcS m false = if m % 2 = 1 then m / 2 ^^^ 2197175160 else m / 2 := by
  unfold crcS crcP
  rw [Nat.testBit_zero]
  by_cases h : m % 2 = 1
  · rw [if_pos h, if_neg (by simp [h])]
  · rw [if_neg h, if_pos (by simp [h])]

set_option maxRecDepth 1000000 in
set_option maxHeartbeats 4000000 in
theorem ckMoved_any {w : World} (n : Nat) (hn : n < 4294967296) : Calls Try.prog 32 #[.int .u32 (n : Int)] w fun e w' => e = .returned (.int .u32 ((crcR n (List.replicate 8 false) : Nat) : Int)) ∧ w' = w := by
  have HLT : Hid (∀ j, crcR n (List.replicate j false) < 4294967296) := Lib.hid fun j => crcR_lt _ _ hn
  have HZ : Hid (∀ j, crcR n (List.replicate (j + 1) false) = crcS (crcR n (List.replicate j false)) false) := Lib.hid (crc_zeros n)
  have HZ0 : Hid (crcR n (List.replicate 0 false) = n) := Lib.hid rfl
  go_enter Try.func32, Try.ntmps32
  go_wp2_with fail
  go_loopw [0, 4] (fun r i wr => ∃ j : Nat, j ≤ 8 ∧ i = .int .i64 (j : Int) ∧ r = .int .u32 ((crcR n (List.replicate j false) : Nat) : Int) ∧ wr = w) (fun _ i _ => 8 - (intOf i).toNat)
  case atStart => exact ⟨0, by omega, rfl, by rw [HZ0.out], rfl⟩
  case round =>
    obtain ⟨j, hj, rfl, rfl, rfl⟩ := hrel
    by_cases hlt : j < 8
    · have d1 : decide ((j : Int) < 8) = true := decide_eq_true (by omega)
      have hm := HLT.out j
      have HS := Lib.hid (HZ.out j)
      generalize crcR n (List.replicate j false) = m at *
      have ha := ck_and_one m hm
      have hh : (m : Int) / 2 = ((m / 2 : Nat) : Int) := by omega
      have hh2 : m / 2 < 4294967296 := by omega
      have hx : bits .xor .u32 ((m / 2 : Nat) : Int) 2197175160 = ((m / 2 ^^^ 2197175160 : Nat) : Int) := ck_xor_u32 (m / 2) 2197175160 hh2 (by decide)
      have HST := Lib.hid (crc_step0 m)
      by_cases hb : m % 2 = 1
      · rw [if_pos hb] at HST
        rw [hb] at ha
        generalize m / 2 = h at *
        generalize h ^^^ 2197175160 = z at *
        clear hb
        go_wp2
        go_roundw
        case rel => exact ⟨j + 1, by omega, by go_num, by rw [HS.out, HST.out], trivial⟩
        case measure => simp [intOf]; omega
      · rw [if_neg hb] at HST
        rw [show m % 2 = 0 by omega] at ha
        generalize m / 2 = h at *
        clear hb
        go_wp2
        go_roundw
        case rel => exact ⟨j + 1, by omega, by go_num, by rw [HS.out, HST.out], trivial⟩
        case measure => simp [intOf]; omega
    · obtain rfl : j = 8 := by omega
      generalize hq : crcR n (List.replicate 8 false) = m
      go_wp2
      go_ret
      exact ⟨by rw [hq]; rfl, rfl⟩

theorem crc_byte (n y : Nat) (hy : y < 256) : crcR n (octBits y) = crcR (n ^^^ y) (List.replicate 8 false) := by
  rw [crcR_laid (octBits y) n, octBits_length, bitsN_oct hy]

set_option maxRecDepth 1000000 in
set_option maxHeartbeats 4000000 in
theorem ckLaid_any {w : World} (n : Nat) (hn : n < 4294967296) : Calls Try.prog 23 #[.int .u32 (n : Int)] w fun e w' => ∃ v', e = .returned v' ∧ w'.ownsRow w.heap.size 5 1 v' 4 ((le4 n).map byteV) ∧ Below w.heap.size w w' := by
  obtain ⟨j0, hj0, jz0, jz1, jz2⟩ := info_parts info_u8
  have HG : Hid (∀ (vs : List Nat), vs.length = 4 → (∀ j, j < 4 → vs.getD j 0 = n / 2 ^ (8 * j) % 256) → vs = le4 n) := Lib.hid fun vs hl h => by
    match vs, hl with
    | [a, b, c, d], _ =>
      have h0 := h 0 (by decide)
      have h1 := h 1 (by decide)
      have h2 := h 2 (by decide)
      have h3 := h 3 (by decide)
      simp at h0 h1 h2 h3
      unfold le4
      rw [h0, h1, h2, h3]
  go_enter Try.func23, Try.ntmps23
  go_wp2_with (at_make; refine wpList_make_full _ rfl _ _ 22 rfl w.heap.size 5 j0 (.int .u8 0) 1 Try.underlying22 hj0 jz0 jz1 .i64 .i64 _ _ 4 rfl rfl rfl rfl (by rw [jz2]; omega) (by unfold maxLen; omega) (Nat.le_refl _) ?_; intro w0 hown0 hgrow0; have hb0 := Lib.hid ((Below.refl w.heap.size w).grown hgrow0 (Nat.le_refl _) (fun k hk => by cases hk)); have ho0 := Lib.hid hown0; clear hown0 hgrow0)
  go_loopw [8] (fun i wr => ∃ k : Nat, k ≤ 4 ∧ i = .int .i64 k ∧ (∃ vs : List Nat, vs.length = 4 ∧ (∀ j, j < k → vs.getD j 0 = n / 2 ^ (8 * j) % 256) ∧ wr.ownsRow w.heap.size 5 1 (.slice (some ⟨w.heap.size, 0, none⟩) 4 4) 4 (vs.map byteV)) ∧ Below w.heap.size w wr) (fun i _ => 4 - (intOf i).toNat)
  case atStart => exact ⟨0, Nat.zero_le _, rfl, ⟨List.replicate 4 0, by simp, fun j hj => by omega, by rw [List.map_replicate]; have := ho0.out; rw [Nat.mul_one] at this; exact toList_madeCells_one (.int .u8 0) 4 ▸ this⟩, hb0.out⟩
  case round =>
    obtain ⟨k, hk, rfl, ⟨vs, hvl, hvs, hown⟩, hbel⟩ := hrel
    have hsz := hbel.size
    by_cases hlt : k < 4
    · have hy4 : wr.frozen? ⟨w.heap.size, k, none⟩ = false := hown.frozenAt k
      have hy3 : wr.cell? ⟨w.heap.size, k, none⟩ = some (.int .u8 ((vs.getD k 0 : Nat) : Int)) := by
        rw [hown.cellAt k (by omega)]
        simp [List.getD_eq_getElem?_getD, hvl, hlt, byteV]
      obtain ⟨D, hD⟩ : ∃ D, D = n / 2 ^ (8 * k) % 256 := ⟨_, rfl⟩
      have HX : Hid (∀ j, j < k + 1 → (vs.set k D).getD j 0 = n / 2 ^ (8 * j) % 256) := Lib.hid fun j hj => by
        simp only [List.getD_eq_getElem?_getD, List.getElem?_set] at *
        by_cases e : k = j
        · subst e; rw [if_pos rfl, if_pos (by omega), ← hD]; rfl
        · rw [if_neg e]; exact hvs j (by omega)
      have HO := Lib.hid hown
      have HB := Lib.hid hbel
      have HL := Lib.hid hvl
      have HK : Hid (k = 0 ∨ k = 1 ∨ k = 2 ∨ k = 3) := Lib.hid (by omega)
      have HD := Lib.hid hD
      clear hown hbel hvs hvl hD
      generalize vs.getD k 0 = z at hy3
      have hD8 : D < 256 := by rw [HD.out]; omega
      rcases HK.out with rfl | rfl | rfl | rfl
      · have h8 : (n : Int) % 256 = (D : Int) := by
          have := HD.out
          simp at this
          omega
        have h9 : (n : Int) / 2 ^ 0 % 256 = (D : Int) := by rw [← h8]; simp
        go_wp2
        go_roundw
        case rel => exact ⟨1, by omega, by go_num, ⟨vs.set 0 D, by simpa using HL.out, HX.out, by rw [List.map_set]; exact (HO.out.stored 0 (.int .u8 D)).1⟩, HB.out.setCell (p := ⟨w.heap.size, 0, none⟩) (Nat.le_refl _) _⟩
        case measure => simp [intOf]
      · have h8 : (n : Int) / 256 % 256 = (D : Int) := by
          have := HD.out
          simp at this
          omega
        have h9 : (n : Int) / 2 ^ 8 % 256 = (D : Int) := by rw [← h8]; simp
        go_wp2
        go_roundw
        case rel => exact ⟨2, by omega, by go_num, ⟨vs.set 1 D, by simpa using HL.out, HX.out, by rw [List.map_set]; exact (HO.out.stored 1 (.int .u8 D)).1⟩, HB.out.setCell (p := ⟨w.heap.size, 1, none⟩) (Nat.le_refl _) _⟩
        case measure => simp [intOf]
      · have h8 : (n : Int) / 65536 % 256 = (D : Int) := by
          have := HD.out
          simp at this
          omega
        have h9 : (n : Int) / 2 ^ 16 % 256 = (D : Int) := by rw [← h8]; simp
        go_wp2
        go_roundw
        case rel => exact ⟨3, by omega, by go_num, ⟨vs.set 2 D, by simpa using HL.out, HX.out, by rw [List.map_set]; exact (HO.out.stored 2 (.int .u8 D)).1⟩, HB.out.setCell (p := ⟨w.heap.size, 2, none⟩) (Nat.le_refl _) _⟩
        case measure => simp [intOf]
      · have h7 : (n : Int) / 16777216 = (D : Int) := by
          have := HD.out
          simp at this
          omega
        have h8 : (n : Int) / 16777216 % 256 = (D : Int) := by
          have := HD.out
          simp at this
          omega
        have h9 : (n : Int) / 2 ^ 24 % 256 = (D : Int) := by rw [← h8]; simp
        go_wp2
        go_roundw
        case rel => exact ⟨4, by omega, by go_num, ⟨vs.set 3 D, by simpa using HL.out, HX.out, by rw [List.map_set]; exact (HO.out.stored 3 (.int .u8 D)).1⟩, HB.out.setCell (p := ⟨w.heap.size, 3, none⟩) (Nat.le_refl _) _⟩
        case measure => simp [intOf]
    · have hk' : k = 4 := by omega
      have HO := Lib.hid hown
      have HB := Lib.hid hbel
      have HV : Hid (vs = le4 n) := Lib.hid (HG.out vs hvl fun j hj => hvs j (by omega))
      clear hown hbel hvs hvl
      go_wp2
      go_ret
      exact ⟨_, rfl, by have := HO.out; rw [HV.out] at this; exact this, HB.out⟩
end Go.Proofs.Ytmihpbdgilmdiaa
end

section
/- slices.Grow of no slice, slices.Concat: at bytes, and at rows of bytes. (Made by gencat.py.) -/
namespace Go.Proofs.Ytmihpbdgilmdiaa
open Go.RowKit Go.Extern.Stop Go.Stop Go.Extern

/-- The elements of the first j lists. -/
def catTo (X : List (List Value)) (j : Nat) : List Value := (X.take j).flatten
theorem catTo_zero (X : List (List Value)) : catTo X 0 = [] := rfl
theorem catTo_succ {X : List (List Value)} {j : Nat} (h : j < X.length) : catTo X (j + 1) = catTo X j ++ X.getD j [] := by
  unfold catTo
  rw [List.take_add_one, List.flatten_append, List.getElem?_eq_getElem h]
  simp [List.getD_eq_getElem?_getD, h]
theorem catTo_all (X : List (List Value)) : catTo X X.length = X.flatten := by unfold catTo; rw [List.take_length]
theorem catTo_le (X : List (List Value)) (j : Nat) : (catTo X j).length ≤ X.flatten.length := by
  unfold catTo
  conv => rhs; rw [← List.take_append_drop j X, List.flatten_append]
  simp
theorem catTo_mem {X : List (List Value)} {p : Value → Prop} (h : ∀ l ∈ X, ∀ y ∈ l, p y) (j : Nat) : ∀ y ∈ catTo X j, p y := fun y hy => by
  obtain ⟨l, hl, hy⟩ := List.mem_flatten.1 hy
  exact h l (List.mem_of_mem_take hl) y hy

set_option maxRecDepth 1000000 in
set_option maxHeartbeats 4000000 in
theorem GrowB_any {w : World} (n : Nat) (hn : n ≤ 140737488351300) : Calls Try.prog 25 #[.slice none 0 0, .int .i64 (n : Int)] w fun e w' => ∃ v, e = .returned v ∧ w'.ownsRow w.heap.size 5 1 v 0 [] ∧ Below w.heap.size w w' := by
  obtain ⟨i0, hi0, hz0, hz1, hz2⟩ := info_parts info_u8
  by_cases h : n = 0
  · subst h
    go_enter Try.func25, Try.ntmps25
    go_wp2
    go_ret
    exact ⟨_, rfl, World.ownsRow_nil _ _ _ _, Below.refl _ _⟩
  · have hp : 0 < n := by omega
    have d1 : decide ((0 : Int) < (n : Int)) = true := decide_eq_true (by omega)
    have HG : Hid (grownCap w (0 + n) 0 5 ≤ maxLen ∧ n ≤ grownCap w (0 + n) 0 5) := Lib.hid ⟨grownCap_le_maxLen w _ _ _ (by unfold maxLen; omega), by have := grownCap_ge w (0 + n) 0 5; omega⟩
    have hrz : ∀ ty, (Builtin.append_ #[22, 3] ty #[.slice none 0 0, .int .i64 (n : Int)]).run Try.prog w = .ok (.slice (some ⟨w.heap.size, 0, none⟩) n (grownCap w (0 + n) 0 5)) (w.drew.alloc (.cells (([] : List Value).toArray ++ Builtin.zeroCells (Value.int .u8 0).cells n ++ Builtin.zeroCells (Value.int .u8 0).cells (grownCap w (0 + n) 0 5 - (0 + n))) 5)) := fun ty => by
      have h := Lib.run_append_grow_zeros w 22 3 ty 5 i0 (Value.int .u8 0) .i64 .i64 Try.underlying22 Try.underlying3 hi0 hz0 none 0 0 [] (run_firstCells_none w.drew i0.size 0 0 0) n hp (by omega) (by omega) (by omega) (by rw [hz2]; omega) (growslice_fits (by omega) (by rw [hz2]; omega))
      rw [Nat.zero_add] at h ⊢
      exact h
    obtain ⟨G, hG⟩ : ∃ G, G = grownCap w (0 + n) 0 5 := ⟨_, rfl⟩
    rw [← hG] at hrz HG
    obtain ⟨W, hW⟩ : ∃ W, W = w.drew.alloc (.cells (([] : List Value).toArray ++ Builtin.zeroCells (Value.int .u8 0).cells n ++ Builtin.zeroCells (Value.int .u8 0).cells (G - (0 + n))) 5) := ⟨_, rfl⟩
    rw [← hW] at hrz
    have hcs : (Value.int .u8 0).cells.size = 1 := rfl
    have hsize : (([] : List Value).toArray ++ Builtin.zeroCells (Value.int .u8 0).cells n ++ Builtin.zeroCells (Value.int .u8 0).cells (G - (0 + n))).size = G * 1 := by
      have h2 := HG.out.2
      rw [Array.size_append, Array.size_append, size_zeroCells, size_zeroCells, hcs]
      simp
      omega
    have hheap : W.heap[w.heap.size]? = some (.cells (([] : List Value).toArray ++ Builtin.zeroCells (Value.int .u8 0).cells n ++ Builtin.zeroCells (Value.int .u8 0).cells (G - (0 + n))) 5 (0, 0)) := by rw [hW]; exact heap_alloc_new w.drew _
    have ho : W.ownsRow w.heap.size 5 1 (.slice (some ⟨w.heap.size, 0, none⟩) 0 G) 0 [] := ⟨rfl, .inr ⟨w.heap.size, G, _, rfl, Nat.le_refl _, hheap, Nat.zero_le _, HG.out.1, hsize, by simp⟩⟩
    have HO := Lib.hid ho
    have HB : Hid (Below w.heap.size w W) := Lib.hid (by rw [hW]; exact ((Below.refl _ _).drew).alloc (Nat.le_refl _) _)
    have hGn : n ≤ G := HG.out.2
    have hGm : G ≤ 9223372036854775807 := HG.out.1
    clear hG hW HG hcs hsize hheap ho
    go_enter Try.func25, Try.ntmps25
    go_wp2_with (at_builtin; refine Lib.wpList_append_run _ rfl _ _ _ _ rfl _ _ rfl rfl _ _ (hrz _) ?_)
    go_ret
    exact ⟨_, rfl, HO.out, HB.out⟩

set_option maxRecDepth 1000000 in
set_option maxHeartbeats 4000000 in
theorem ConcatB_any {w : World} (v : Value) (X : List (List Value)) (h : MatAt id w v X) (h1 : ∀ l ∈ X, ∀ y ∈ l, y.oneCell' = true) (hX : X.length ≤ 4194304) (ht : X.flatten.length ≤ 140737488351300) :
    Calls Try.prog 17 #[v] w fun e w' => ∃ v', e = .returned v' ∧ w'.ownsRow w.heap.size 5 1 v' X.flatten.length X.flatten ∧ Below w.heap.size w w' := by
  obtain ⟨i0, hi0, hz0, hz1, hz2⟩ := info_parts info_u8
  obtain ⟨a, cap, rfl, hc, hm, hcell⟩ := h.opens
  have HM := Lib.hid h
  have HC := Lib.hid hcell
  have H1 := Lib.hid h1
  have HT : Hid (∀ j, (catTo X j).length ≤ 140737488351300) := Lib.hid fun j => Nat.le_trans (catTo_le X j) ht
  have HS : Hid (∀ j, j < X.length → (catTo X (j + 1)).length = (catTo X j).length + (X.getD j []).length) := Lib.hid fun j hj => by rw [catTo_succ hj, List.length_append]
  have HA : Hid (catTo X X.length = X.flatten) := Lib.hid (catTo_all X)
  have HN : Hid (∀ j, j < X.length → catTo X (j + 1) = catTo X j ++ X.getD j []) := Lib.hid fun j hj => catTo_succ hj
  rw [← catTo_all X]
  have HX0 : Hid (catTo X 0 = []) := Lib.hid rfl
  have HEL : Hid (∀ j, j < X.length → ∀ y ∈ X.getD j [], y.oneCell' = true) := Lib.hid fun j hj => h1 _ (by
    rw [List.getD_eq_getElem?_getD, List.getElem?_eq_getElem hj]; exact List.getElem_mem hj)
  clear h h1 ht hcell
  generalize hn : X.length = n at *
  go_enter Try.func17, Try.ntmps17
  go_wp2_with fail
  go_loopw [3, 11] (fun s i wr => ∃ j : Nat, j ≤ n ∧ i = .int .i64 (j : Int) ∧ s = .int .i64 (((catTo X j).length : Nat) : Int) ∧ w = wr) (fun _ i _ => n - (intOf i).toNat)
  case atStart => exact ⟨0, by omega, rfl, by rw [HX0.out]; rfl, rfl⟩
  case round =>
    obtain ⟨j, hj, rfl, rfl, rfl⟩ := hrel
    by_cases hlt : j < n
    · obtain ⟨b, off, hab, hcc⟩ := HC.out (by omega)
      subst hab
      obtain ⟨x, hx, hxl⟩ := hcc j hlt
      obtain ⟨ax, cx, rfl, hxc, hxm, -⟩ := hxl
      have hst := HS.out j hlt
      have hle := HT.out (j + 1)
      have hle0 := HT.out j
      have HST := Lib.hid hst
      have d1 : decide ((j : Int) < (n : Int)) = true := decide_eq_true (by omega)
      rw [hst] at hle
      clear hst hcc
      generalize (catTo X j).length = t at *
      generalize (X.getD j []).length = c at *
      have d2 : decide ((t : Int) + (c : Int) < 0) = false := decide_eq_false (by omega)
      go_wp2
      go_roundw
      case rel => exact ⟨j + 1, hlt, by go_num, by rw [HST.out]; go_num, trivial⟩
      case measure => simp [intOf]; omega
    · obtain rfl : j = n := by omega
      have d1 : decide ((j : Int) < (j : Int)) = false := decide_eq_false (by omega)
      have hle0 := HT.out j
      have HG : Hid (Calls Try.prog 25 #[.slice none 0 0, .int .i64 (((catTo X j).length : Nat) : Int)] w fun e w' => ∃ v, e = .returned v ∧ w'.ownsRow w.heap.size 5 1 v 0 [] ∧ Below w.heap.size w w') := Lib.hid (GrowB_any _ hle0)
      generalize ht : (catTo X j).length = t at HG hle0 ⊢
      go_wp2_with fail
      refine HG.out.mono ?_
      rintro e w1 ⟨g, rfl, ho, hb1⟩
      have HO := Lib.hid ho
      have HB1 := Lib.hid hb1
      clear ho hb1 ht
      go_wp2_with fail
      go_loopw [6, 27] (fun nv i wr => ∃ k : Nat, k ≤ j ∧ i = .int .i64 (k : Int) ∧ wr.ownsRow w.heap.size 5 1 nv (catTo X k).length (catTo X k) ∧ Below w.heap.size w wr) (fun _ i _ => j - (intOf i).toNat)
      case atStart => exact ⟨0, by omega, rfl, by rw [HX0.out]; exact HO.out, HB1.out⟩
      case round =>
        obtain ⟨k, hk, rfl, hown, hbel⟩ := hrel
        have HO2 := Lib.hid hown
        have HB := Lib.hid hbel
        have hsz := hbel.size
        obtain ⟨an, cn, rfl, -, -⟩ := own_open hown
        by_cases hlt : k < j
        · obtain ⟨b, off, hab, hcc⟩ := HC.out (by omega)
          subst hab
          obtain ⟨x, hx, hxl⟩ := hcc k hlt
          have hx' := (hbel.cell (p := ⟨b, off + k, none⟩) (World.block_lt_of_cell? w _ hx)).trans hx
          have HXL := Lib.hid (hxl.mono hbel)
          have hst := HS.out k hlt
          have hle := HT.out (k + 1)
          have hle0 := HT.out k
          have HNX := Lib.hid (HN.out k hlt)
          have HE1 := Lib.hid (HEL.out k hlt)
          have d2 : decide ((k : Int) < (j : Int)) = true := decide_eq_true (by omega)
          rw [hst] at hle
          clear hst hcc hown hbel hx
          generalize X.getD k [] = r at *
          generalize catTo X k = tk at *
          obtain ⟨ax, cx, rfl, hxc, hxm, -⟩ := hxl
          go_wp2_with (at_builtin; refine wpList_append_of _ rfl (.tmp 31) (.tmp 32) 22 rfl w.heap.size 5 i0 (Value.int .u8 0) 1 Try.underlying22 hi0 hz0 hz1 hz2 rfl (.slice an tk.length cn) tk.length tk rfl HO2.out (.slice ax r.length cx) r rfl HXL.out HE1.out (by unfold maxLen; omega) (by omega) hsz ?_; intro v' w' ho' hg'; have HO3 := Lib.hid ho'; have HB3 := Lib.hid (HB.out.grown hg' hsz (fun q hq => (HO2.out.lt q hq).1)); clear ho' hg')
          go_roundw
          case rel => exact ⟨k + 1, hlt, by go_num, by rw [HNX.out, List.length_append]; simpa using HO3.out, HB3.out⟩
          case measure => simp [intOf]; omega
        · obtain rfl : k = j := by omega
          have d2 : decide ((k : Int) < (k : Int)) = false := decide_eq_false (by omega)
          clear hown hbel
          go_wp2
          go_ret
          exact ⟨_, rfl, HO2.out, HB.out⟩

end Go.Proofs.Ytmihpbdgilmdiaa
end

section
/- The landed package check: Sum, Clone, Equal, Add (layer 15). -/
namespace Go.Proofs.Ytmihpbdgilmdiaa
open Go.RowKit Go.Extern.Stop Go.Stop Go.Extern

theorem crc_flat (n : Nat) (L : List (List Nat)) (j : Nat) (h : j < L.length) : crcO n (L.take (j + 1)).flatten = crcO (crcO n (L.take j).flatten) (L.getD j []) := by
  rw [List.take_add_one, List.getElem?_eq_getElem h, List.flatten_append, crcO_append, List.getD_eq_getElem?_getD, List.getElem?_eq_getElem h]
  simp

set_option maxRecDepth 1000000 in
set_option maxHeartbeats 4000000 in
theorem ckSum_same {w : World} (v : Value) (L : List (List Nat)) (h : MatAt byteV w v L) (ho : ∀ r ∈ L, Octets r) : Calls Try.prog 24 #[v] w fun e w' => e = .returned (.int .u32 ((crcSum L.flatten : Nat) : Int)) ∧ w' = w := by
  have hlen := h.len
  obtain ⟨a, cap, rfl, hcap, hcm, hcell⟩ := h.opens
  have HC := Lib.hid hcell
  have HO : Hid (∀ j, j < L.length → Octets (L.getD j [])) := Lib.hid fun j hj => ho _ (by
    rw [List.getD_eq_getElem?_getD, List.getElem?_eq_getElem hj]; exact List.getElem_mem hj)
  have HR0 : Hid (crcO 4294967295 (L.take 0).flatten = 4294967295) := Lib.hid rfl
  have HLT : Hid (∀ j, crcO 4294967295 (L.take j).flatten < 4294967296) := Lib.hid fun j => crcO_lt _ _ (by decide)
  have HST : Hid (∀ j, j < L.length → crcO 4294967295 (L.take (j + 1)).flatten = crcO (crcO 4294967295 (L.take j).flatten) (L.getD j [])) := Lib.hid (crc_flat 4294967295 L)
  have HEND : Hid (crcSum L.flatten = 4294967295 - crcO 4294967295 (L.take L.length).flatten) := Lib.hid (by rw [List.take_length]; rfl)
  clear h ho hcell
  go_enter Try.func24, Try.ntmps24
  go_wp2_with fail
  go_loopw [3, 10] (fun n i wr => ∃ j : Nat, j ≤ L.length ∧ i = .int .i64 (j : Int) ∧ n = .int .u32 ((crcO 4294967295 (L.take j).flatten : Nat) : Int) ∧ wr = w) (fun _ i _ => L.length - (intOf i).toNat)
  case atStart => exact ⟨0, by omega, rfl, by rw [HR0.out]; rfl, rfl⟩
  case round =>
    obtain ⟨j, hj, rfl, rfl, rfl⟩ := hrel
    by_cases hlt : j < L.length
    · have d1 : decide ((j : Int) < (L.length : Int)) = true := decide_eq_true (by omega)
      obtain ⟨b, off, rfl, hcc⟩ := HC.out (by omega)
      obtain ⟨x, hx, hl1⟩ := hcc j hlt
      have ho1 := HO.out j hlt
      have hn0 := HLT.out j
      have HS1 := Lib.hid (HST.out j hlt)
      have hrl := hl1.len
      obtain ⟨a1, c1, rfl, -, -, hcell1⟩ := hl1
      have HC1 := Lib.hid hcell1
      have HO1 := Lib.hid ho1
      clear hcc hcell1 ho1
      generalize crcO 4294967295 (L.take j).flatten = n0 at *
      generalize L.getD j [] = r at *
      have HT0 : Hid (crcO n0 (r.take 0) = n0) := Lib.hid rfl
      have HTL : Hid (∀ t, crcO n0 (r.take t) < 4294967296) := Lib.hid fun t => crcO_lt _ _ hn0
      have HTS : Hid (∀ t, t < r.length → crcO n0 (r.take (t + 1)) = crcR (crcO n0 (r.take t)) (octBits (r.getD t 0))) := Lib.hid fun t ht => crc_take r n0 t ht
      have HTE : Hid (crcO n0 (r.take r.length) = crcO n0 r) := Lib.hid (by rw [List.take_length])
      go_wp2_with fail
      go_loopw [3, 16] (fun n i wr' => ∃ t : Nat, t ≤ r.length ∧ i = .int .i64 (t : Int) ∧ n = .int .u32 ((crcO n0 (r.take t) : Nat) : Int) ∧ wr' = wr) (fun _ i _ => r.length - (intOf i).toNat)
      case atStart => exact ⟨0, by omega, rfl, by rw [HT0.out], rfl⟩
      case round =>
        obtain ⟨t, ht, rfl, rfl, rfl⟩ := hrel
        by_cases htl : t < r.length
        · have d2 : decide ((t : Int) < (r.length : Int)) = true := decide_eq_true (by omega)
          obtain ⟨b1, off1, rfl, hcc1⟩ := HC1.out (by omega)
          have hx1 := hcc1 t htl
          have hy : r.getD t 0 < 256 := HO1.out.getD t
          have hcell : wr.cell? ⟨b1, off1 + t, none⟩ = some (.int .u8 ((r.getD t 0 : Nat) : Int)) := by
            rw [hx1]; simp [List.getD_eq_getElem?_getD, htl, byteV]
          have hm := HTL.out t
          have HSS := Lib.hid (HTS.out t htl)
          clear hcc1 hx1
          generalize r.getD t 0 = y at *
          generalize crcO n0 (r.take t) = m at *
          have hxr := ck_xor_u32 m y hm (by omega)
          have HMV := Lib.hid (ckMoved_any (w := wr) (m ^^^ y) (Nat.xor_lt_two_pow (n := 32) (by omega) (by omega)))
          rw [← crc_byte m y hy] at HMV
          generalize m ^^^ y = z at *
          go_wp2_with fail
          refine HMV.out.mono ?_
          rintro e w1 ⟨rfl, rfl⟩
          rw [← HSS.out]
          go_wp2_with fail
          go_roundw
          case rel => exact ⟨t + 1, htl, by go_num, rfl, trivial⟩
          case measure => simp [intOf]; omega
        · obtain rfl : t = r.length := by omega
          have d2 : decide ((r.length : Int) < (r.length : Int)) = false := decide_eq_false (by omega)
          rw [HTE.out, ← HS1.out]
          go_wp2
          go_roundw
          case rel => exact ⟨j + 1, hlt, by go_num, rfl, trivial⟩
          case measure => simp [intOf]; omega
    · obtain rfl : j = L.length := by omega
      have d1 : decide ((L.length : Int) < (L.length : Int)) = false := decide_eq_false (by omega)
      have hn0 := HLT.out L.length
      generalize crcO 4294967295 (L.take L.length).flatten = n at *
      have hnt := ck_not n hn0
      go_wp2
      go_ret
      exact ⟨by rw [HEND.out]; rfl, rfl⟩

theorem ckSumC : CkSumC := fun w v L h ho => (ckSum_same v L h ho).mono (by
  rintro e w' ⟨rfl, rfl⟩
  exact ⟨rfl, Below.refl _ _⟩)

set_option maxRecDepth 1000000 in
set_option maxHeartbeats 4000000 in
theorem ckClone_any {w : World} (v : Value) (l : List Nat) (h : ListAt byteV w v l) (hR : l.length ≤ 140737488351248) : Calls Try.prog 26 #[v] w fun e w' => ∃ v', e = .returned v' ∧ w'.ownsRow w.heap.size 5 1 v' l.length (l.map byteV) ∧ Below w.heap.size w w' := by
  obtain ⟨j0, hj0, jz0, jz1, jz2⟩ := info_parts info_u8
  have HL := Lib.hid h
  have q22 : ∀ (w : World) (a : Option Addr) (n c : Nat), (binOp .eql 22 (.slice a n c) (.slice none 0 0)).run Try.prog w = .ok (.bool a.isNone) w := fun w a n c => Go.run_eql_slice_nil w _ _ a n c Try.underlying22
  obtain ⟨a, cap, rfl, -, -, hc⟩ := h
  cases a with
  | none =>
    have h0 : l = [] := by
      rcases Nat.eq_zero_or_pos l.length with h | h
      · exact List.eq_nil_of_length_eq_zero h
      · obtain ⟨b, off, h1, -⟩ := hc h
        exact absurd h1 (by simp)
    subst h0
    go_enter Try.func26, Try.ntmps26
    go_wp2
    go_ret
    exact ⟨_, rfl, World.ownsRow_nil _ _ _ _, Below.refl _ _⟩
  | some a =>
    have HOS := Lib.hid (World.ownsRow_made (base := w.heap.size) (e := 5) (size := 1) w #[] 0 (Nat.le_refl _) (by decide) rfl)
    have HB2 := Lib.hid ((Below.refl w.heap.size w).alloc (Nat.le_refl _) (.cells #[] 5))
    have HL2 := Lib.hid (HL.out.mono HB2.out)
    clear hc
    go_enter Try.func26, Try.ntmps26
    go_wp2_with (at_builtin; refine wpList_append_of _ rfl (.tmp 5) (.tmp 6) 22 rfl w.heap.size 5 j0 (.int .u8 0) 1 Try.underlying22 hj0 jz0 jz1 jz2 rfl (.slice (some ⟨w.heap.size, 0, none⟩) 0 0) 0 [] rfl HOS.out (.slice (some a) l.length cap) l rfl HL2.out (fun y _ => rfl) (by unfold maxLen; omega) (by omega) (by simp) ?_; intro v3 w3 ho3 hg3; have HO3 := Lib.hid (show w3.ownsRow w.heap.size 5 1 v3 l.length (l.map byteV) by simpa using ho3); have HB3 := Lib.hid (HB2.out.grown hg3 (by simp) (fun k hk => (HOS.out.lt k hk).1)); clear ho3 hg3)
    go_ret
    exact ⟨_, rfl, HO3.out, HB3.out⟩

set_option maxRecDepth 1000000 in
set_option maxHeartbeats 4000000 in
theorem ckEqual_any {w : World} (x y : Value) (a b : List Nat) (hx : ListAt byteV w x a) (hy : ListAt byteV w y b) (ha : Octets a) (hb : Octets b) : Calls Try.prog 12 #[x, y] w fun e w' => e = .returned (.bool (decide (a = b))) ∧ w' = w := by
  have h1 := hx.str
  have h2 := hy.str
  have h3 := strN_same ha hb
  obtain ⟨p1, c1, rfl, -, -, -⟩ := hx
  obtain ⟨p2, c2, rfl, -, -, -⟩ := hy
  generalize decide (a = b) = q at *
  go_enter Try.func12, Try.ntmps12
  go_wp2_with fail
  go_ret
  exact ⟨by first | rw [h3] | rfl, rfl⟩

theorem mat_one {w : World} {x : Value} {a : List Nat} (hx : ListAt byteV w x a) : MatAt byteV (w.alloc (.cells #[x] 22)) (.slice (some ⟨w.heap.size, 0, none⟩) 1 1) [a] := by
  have hb : Below w.heap.size w (w.alloc (.cells #[x] 22)) := (Below.refl _ _).alloc (Nat.le_refl _) _
  refine ⟨[x], ListAt.of_owns (f := id) (l := [x]) (own_of_heap (base := 0) (n := 1) (g := w.heap.size) (e := 22) (xs := [x].map id) (Nat.zero_le _) rfl (by decide) (heap_alloc_new w _)), rfl, fun i => ?_⟩
  match i with
  | 0 => exact hx.mono hb
  | i + 1 => exact ListAt.nil _ _
theorem ListAt.vals1 {w : World} {v : Value} {l : List Nat} (h : ListAt byteV w v l) : ListAt id w v (l.map byteV) := by
  obtain ⟨a, cap, rfl, h1, h2, h3⟩ := h
  refine ⟨a, cap, by simp, by simpa using h1, h2, fun hp => ?_⟩
  obtain ⟨b, off, rfl, hc⟩ := h3 (by simpa using hp)
  refine ⟨b, off, rfl, fun j hj => ?_⟩
  rw [hc j (by simpa using hj)]
  simp
theorem mat_two {w : World} {x y : Value} {a b : List Value} (hx : ListAt id w x a) (hy : ListAt id w y b) : MatAt id (w.alloc (.cells #[x, y] 22)) (.slice (some ⟨w.heap.size, 0, none⟩) 2 2) [a, b] := by
  have hb : Below w.heap.size w (w.alloc (.cells #[x, y] 22)) := (Below.refl _ _).alloc (Nat.le_refl _) _
  refine ⟨[x, y], ListAt.of_owns (f := id) (l := [x, y]) (own_of_heap (base := 0) (n := 2) (g := w.heap.size) (e := 22) (xs := [x, y].map id) (Nat.zero_le _) rfl (by decide) (heap_alloc_new w _)), rfl, fun i => ?_⟩
  match i with
  | 0 => exact hx.mono hb
  | 1 => exact hy.mono hb
  | i + 2 => exact ListAt.nil _ _

set_option maxRecDepth 1000000 in
set_option maxHeartbeats 4000000 in
theorem ckAddC : CkAddC := fun w v l h ho hR => by
  have hlen := h.len
  have HL := Lib.hid h
  obtain ⟨a, cap, rfl, -, -, -⟩ := h
  have HB1 := Lib.hid ((Below.refl w.heap.size w).alloc (Nat.le_refl _) (.cells #[.slice a l.length cap] 22))
  have HS := Lib.hid (ckSum_same _ [l] (mat_one HL.out) (by intro r hr; simp at hr; rw [hr]; exact ho))
  have hfl : [l].flatten = l := by simp
  rw [hfl] at HS
  have hn := crcSum_lt l
  have HLD : Hid (∀ V : World, Calls Try.prog 23 #[.int .u32 ((crcSum l : Nat) : Int)] V fun e w' => ∃ v', e = .returned v' ∧ w'.ownsRow V.heap.size 5 1 v' 4 ((le4 (crcSum l)).map byteV) ∧ Below V.heap.size V w') := Lib.hid fun V => ckLaid_any _ hn
  have HE : Hid (∀ X Y : List Value, [X, Y].flatten = X ++ Y) := Lib.hid fun X Y => by simp
  have HMM : Hid ((l ++ le4 (crcSum l)).map byteV = l.map byteV ++ (le4 (crcSum l)).map byteV) := Lib.hid (List.map_append ..)
  have h4l : ((le4 (crcSum l)).map byteV).length = 4 := by rw [List.length_map]; rfl
  generalize crcSum l = n at *
  clear hfl ho
  go_enter Try.func16, Try.ntmps16
  go_wp2_with fail
  refine HS.out.mono ?_
  rintro e w1 ⟨rfl, rfl⟩
  go_wp2_with fail
  refine (HLD.out _).mono ?_
  rintro e w2 ⟨v2, rfl, ho2, hb2⟩
  have HB2 := Lib.hid (HB1.out.trans (hb2.mono HB1.out.size))
  have HL2 := Lib.hid (ListAt.of_owns (f := byteV) (l := le4 n) ho2)
  have HP2 := Lib.hid (HL.out.mono HB2.out)
  obtain ⟨a2, c2, rfl, -, -⟩ := own_open ho2
  clear ho2 hb2
  have hm2 := mat_two HP2.out.vals1 HL2.out.vals1
  have HB3 := Lib.hid (HB2.out.alloc HB2.out.size (.cells #[(.slice a l.length cap), (.slice a2 4 c2)] 22))
  have HCC := Lib.hid (ConcatB_any _ _ hm2 (by
    intro r hr y hy
    simp at hr
    rcases hr with rfl | rfl <;> · obtain ⟨z, -, rfl⟩ := List.mem_map.1 hy; rfl) (by simp) (by rw [HE.out, List.length_append, h4l, List.length_map]; omega))
  rw [HE.out, ← HMM.out, List.length_map, List.length_append, show (le4 n).length = 4 from rfl] at HCC
  clear hm2
  go_wp2_with fail
  refine HCC.out.mono ?_
  rintro e w4 ⟨v4, rfl, ho4, hb4⟩
  have HO4 := Lib.hid (ownsRow_base ho4 HB3.out.size)
  have HB4 := Lib.hid (HB3.out.trans (hb4.mono HB3.out.size))
  clear ho4 hb4
  go_wp2_with fail
  go_ret
  exact ⟨_, rfl, HO4.out, HB4.out⟩
end Go.Proofs.Ytmihpbdgilmdiaa
end
