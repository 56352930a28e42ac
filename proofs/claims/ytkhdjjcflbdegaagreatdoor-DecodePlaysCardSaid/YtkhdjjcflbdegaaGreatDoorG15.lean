import Derived.Test.YtkhdjjcflbdegaaGreatDoorG07
import Derived.Shelf.Strconv.Itoa0
import Derived.Shelf.Spec.TrailingZeros
import Derived.Laws.Bits128
import Derived.Test.YtkhdjjcflbdegaaGreatDoorG03
import Derived.Test.YtkhdjjcflbdegaaGreatDoorG08
import Derived.BigQuiet
import Derived.WalkSmall
import Derived.Deep.QuietTactic
import Derived.Laws.ShiftsVar
import Derived.Test.YtkhdjjcflbdegaaGreatDoorG11
import Derived.Test.YtkhdjjcflbdegaaGreatDoorG02
import Derived.Test.YtkhdjjcflbdegaaGreatDoorG53
import Derived.OwnWalk
import Derived.WalkSpells
import Derived.WalkLawsBesides
import Derived.Deep.LoopGhost

section
/- math/bits at this program: Len64 and TrailingZeros64 by the shelf's contracts (laid by lay-shelf and lay-plain, the numbers by name), OnesCount64 by its own text. -/
namespace Go.Proofs.YtkhdjjcflbdegaaGreatDoor
open Go.Shelf

def Tryz.lays129_ren : Go.Shelf.Ren := ⟨fun | 129 => 150 | n => n, fun | 53 => 163 | 3 => 3 | 4 => 4 | 46 => 60 | 5 => 5 | 9 => 9 | n => n, fun | n => n⟩
theorem Tryz.lays129 : Go.Proofs.Lays.n129 Tryz.prog Tryz.lays129_ren := {
  mixed := by kernel_rfl
  f129 := Tryz.func150.trans (congrArg some (by kernel_rfl))
  t3 := Tryz.underlying3
  a3 := Tryz.isAgg3
  z3 := Tryz.sizeOf3
  v3 := Tryz.zeroValue3
  t4 := Tryz.underlying4
  a4 := Tryz.isAgg4
  z4 := Tryz.sizeOf4
  v4 := Tryz.zeroValue4
  t5 := Tryz.underlying5
  a5 := Tryz.isAgg5
  z5 := Tryz.sizeOf5
  v5 := Tryz.zeroValue5
  t9 := Tryz.underlying9
  a9 := Tryz.isAgg9
  z9 := Tryz.sizeOf9
  v9 := Tryz.zeroValue9
  t46 := Tryz.underlying60
  a46 := Tryz.isAgg60
  z46 := Tryz.sizeOf60
  v46 := Tryz.zeroValue60
  t53 := Tryz.underlying163
  a53 := Tryz.isAgg163
  z53 := Tryz.sizeOf163
  v53 := Tryz.zeroValue163 }
/-- Len64, off its contract. -/
theorem Tryz.bits_Len64 (x : Int) (w : World) (h0 : 0 ≤ x) (h1 : x ≤ 18446744073709551615) :
    Calls Tryz.prog 150 #[.int .u64 x] w fun e w' => e = .returned (.int .i64 (Lib.bitLen x.toNat)) ∧ w' = w := Any.bits_Len64 Tryz.lays129 x w h0 h1
def Tryz.lays29_ren : Go.Shelf.Ren := ⟨fun | 29 => 103 | n => n, fun | 22 => 163 | 3 => 3 | 4 => 4 | 25 => 60 | 54 => 201 | 0 => 0 | 5 => 5 | n => n, fun | 1 => 1 | n => n⟩
theorem Tryz.lays29 : Go.Proofs.Lays7.n29 Tryz.prog Tryz.lays29_ren := {
  mixed := by kernel_rfl
  f29 := Tryz.func103.trans (congrArg some (by kernel_rfl))
  t0 := Tryz.underlying0
  a0 := Tryz.isAgg0
  z0 := Tryz.sizeOf0
  v0 := Tryz.zeroValue0
  i0 := by kernel_rfl
  t3 := Tryz.underlying3
  a3 := Tryz.isAgg3
  z3 := Tryz.sizeOf3
  v3 := Tryz.zeroValue3
  i3 := by kernel_rfl
  t4 := Tryz.underlying4
  a4 := Tryz.isAgg4
  z4 := Tryz.sizeOf4
  v4 := Tryz.zeroValue4
  i4 := by kernel_rfl
  t5 := Tryz.underlying5
  a5 := Tryz.isAgg5
  z5 := Tryz.sizeOf5
  v5 := Tryz.zeroValue5
  i5 := by kernel_rfl
  t22 := Tryz.underlying163
  a22 := Tryz.isAgg163
  z22 := Tryz.sizeOf163
  v22 := Tryz.zeroValue163
  i22 := by kernel_rfl
  t25 := Tryz.underlying60
  a25 := Tryz.isAgg60
  z25 := Tryz.sizeOf60
  v25 := Tryz.zeroValue60
  i25 := by kernel_rfl
  t54 := Tryz.underlying201
  a54 := Tryz.isAgg201
  z54 := Tryz.sizeOf201
  g1 := by kernel_rfl }

open Go.RowKit Go.Extern.Stop Go.Stop Go.Extern

/-- The table of bits.TrailingZeros64 lies in its variable. -/
def Tab (w : World) : Prop := TabAt 1 Lib.deBruijn64tab w
theorem Tab.mono {w w' : World} (h : Tab w) (hb : Below w.heap.size w w') : Tab w' := by
  intro j hj
  have hx := h j hj
  rw [hb.cell (p := ⟨1, j, none⟩) (World.block_lt_of_cell? w _ hx)]
  exact hx

theorem Len64_any (x : Nat) (hx : x < 18446744073709551616) (w : World) :
    Calls Tryz.prog 150 #[.int .u64 (x : Int)] w fun e w' => e = .returned (.int .i64 (Lib.bitLen x : Nat)) ∧ w = w' := by
  refine (Tryz.bits_Len64 (x : Int) w (by omega) (by omega)).mono ?_
  rintro e w' ⟨rfl, rfl⟩
  exact ⟨by simp, rfl⟩

theorem Tz64_any (x : Nat) (hx : x < 18446744073709551616) (w : World) (hT : Tab w) :
    Calls Tryz.prog 103 #[.int .u64 (x : Int)] w fun e w' => e = .returned (.int .i64 (Lib.ctz 64 x : Nat)) ∧ w = w' := by
  refine (Any7.bits_TrailingZeros64 Tryz.lays29 x hx w fun _ => hT).mono ?_
  rintro e w' ⟨rfl, rfl⟩
  exact ⟨rfl, rfl⟩

end Go.Proofs.YtkhdjjcflbdegaaGreatDoor
end

section
/- Packages packed and geyserref02, what only reads: Has, Count, First, Size, outside; the document's Has, Bit, In, Size, Both. -/
namespace Go.Proofs.YtkhdjjcflbdegaaGreatDoor
open Go.RowKit Go.Extern.Stop Go.Stop Go.Extern

set_option maxRecDepth 1000000 in
theorem outside_any {w : World} (v : Value) (l : List Int) (n : Int) (h : ListAt intV w v l) :
    Calls Tryz.prog 120 #[v, .int .i64 n] w fun e w' => e = .returned (.bool (outI l n)) ∧ w = w' := by
  have hlen := h.len
  obtain ⟨a, cap, rfl, hcap, hcm, hcell⟩ := h
  have HC := Lib.hid hcell
  clear hcell
  go_enter Tryz.func120, Tryz.ntmps120
  go_wp2
  go_loopw [9] (fun i wr => ∃ k : Nat, k ≤ l.length ∧ i = .int .i64 k ∧ (∀ j (hj : j < l.length), j < k → 0 ≤ l[j] ∧ l[j] < n) ∧ w = wr) (fun i _ => l.length - (intOf i).toNat)
  case atStart => exact ⟨0, Nat.zero_le _, rfl, fun j _ hj => by omega, rfl⟩
  case round =>
    obtain ⟨k, hk, rfl, hz, rfl⟩ := hrel
    have HZ := Lib.hid hz
    clear hz
    by_cases hlt : k < l.length
    · obtain ⟨b, off, rfl, hcc⟩ := HC.out (by omega)
      have hx : w.cell? ⟨b, off + k, none⟩ = some (.int .i64 l[k]) := hcc k hlt
      have HM : Hid (l[k] ∈ l) := Lib.hid (List.getElem_mem hlt)
      have HY : Hid (∀ y, l[k] = y → 0 ≤ y ∧ y < n → ∀ j (hj : j < l.length), j < k + 1 → 0 ≤ l[j] ∧ l[j] < n) := Lib.hid fun y e hy j hj hjk => by
        by_cases e2 : j = k
        · subst e2; rw [e]; exact hy
        · exact HZ.out j hj (by omega)
      have HE : Hid (l[k] = l[k]) := Lib.hid rfl
      clear hcc
      generalize l[k] = y at hx HM HY
      clear HE
      by_cases h1 : y < 0
      · go_wp2
        go_ret
        have : outI l n = true := List.any_eq_true.2 ⟨y, HM.out, by simp [h1]⟩
        exact ⟨by rw [this]; rfl, rfl⟩
      · by_cases h2 : y < n
        · go_wp2
          go_roundw
          case rel => exact ⟨k + 1, by omega, by go_num, HY.out y rfl ⟨by omega, h2⟩, trivial⟩
          case measure => simp [intOf]; omega
        · go_wp2
          go_ret
          have : outI l n = true := List.any_eq_true.2 ⟨y, HM.out, by simp; omega⟩
          exact ⟨by rw [this]; rfl, rfl⟩
    · have hk' : k = l.length := by omega
      go_wp2
      go_ret
      have : outI l n = false := by
        unfold outI
        rw [List.any_eq_false]
        intro c hc
        obtain ⟨j, hj, e⟩ := List.getElem_of_mem hc
        have := HZ.out j hj (by omega)
        rw [e] at this
        simp; omega
      exact ⟨by rw [this]; rfl, rfl⟩


theorem Size_any {w : World} (n : Int) (hn : -9223372036854775808 ≤ n ∧ n ≤ 9223372036854775807) :
    Calls Tryz.prog 100 #[.int .i64 n] w fun e w' => e = .returned (.int .i64 (sizeI n)) ∧ w = w' := by
  by_cases h0 : n < 0
  · go_enter Tryz.func100, Tryz.ntmps100
    go_wp2
    go_ret
    exact ⟨by rw [sizeI, if_pos (.inl h0)]; rfl, rfl⟩
  · by_cases h1 : 4096 < n
    · go_enter Tryz.func100, Tryz.ntmps100
      go_wp2
      go_ret
      exact ⟨by rw [sizeI, if_pos (.inr h1)]; rfl, rfl⟩
    · go_enter Tryz.func100, Tryz.ntmps100
      go_wp2
      go_ret
      exact ⟨by rw [sizeI, if_neg (by omega), show n + 63 = n + 64 - 1 by omega]; rfl, rfl⟩

end Go.Proofs.YtkhdjjcflbdegaaGreatDoor
end

section
/- Packages packed and geyserref02, what makes lists: Unpack (both), the document's Xor and Pack; Same, SameWords at like lists; Xor, Odd. -/
namespace Go.Proofs.YtkhdjjcflbdegaaGreatDoor
open Go.RowKit Go.Extern.Stop Go.Stop Go.Extern

/-! ### packed.Unpack -/

theorem colsTo_end (ws : List Nat) (k n : Nat) (hn : n ≤ 64) (hz : ∀ b, n ≤ b → (ws.getD k 0).testBit b = false) : colsTo ws (64 * (k + 1)) = colsTo ws (64 * k + n) := by
  have := colsTo_gap ws (64 * k + n) (64 - n) fun c h1 h2 => by
    have e : c = k * 64 + (c - 64 * k) := by omega
    rw [e, bitW_at _ _ _ (by omega)]
    exact hz _ (by omega)
  rw [← this]
  congr 1
  omega

/-! ### the document's exclusive or -/

def symI (l m : List Int) (n : Nat) : List Nat := (List.range n).filter fun c => decide ((c : Int) ∈ l) != decide ((c : Int) ∈ m)
theorem symI_length_le (l m : List Int) (n : Nat) : (symI l m n).length ≤ n := Nat.le_trans (List.length_filter_le _ _) (by simp)
theorem symI_one (l m : List Int) (n : Nat) (h : (decide ((n : Int) ∈ l) != decide ((n : Int) ∈ m)) = true) : symI l m (n + 1) = symI l m n ++ [n] := by
  unfold symI; rw [List.range_succ, List.filter_append]; simp only [List.filter_cons, List.filter_nil, h]; rfl
theorem symI_none (l m : List Int) (n : Nat) (h : (decide ((n : Int) ∈ l) != decide ((n : Int) ∈ m)) = false) : symI l m (n + 1) = symI l m n := by
  unfold symI; rw [List.range_succ, List.filter_append]; simp only [List.filter_cons, List.filter_nil, h]; simp

/-! ### like lists are the same -/

end Go.Proofs.YtkhdjjcflbdegaaGreatDoor
end
