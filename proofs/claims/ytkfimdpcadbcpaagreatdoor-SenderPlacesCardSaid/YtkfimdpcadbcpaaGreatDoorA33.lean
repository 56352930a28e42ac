import Derived.Test.YtkfimdpcadbcpaaGreatDoorA03
import Derived.Test.YtkfimdpcadbcpaaGreatDoorA32
import Derived.Test.YtkfimdpcadbcpaaGreatDoorA12
import Derived.Test.YtkfimdpcadbcpaaGreatDoorA01
set_option linter.unusedSimpArgs false
set_option linter.unusedVariables false
set_option maxRecDepth 1000000
set_option maxHeartbeats 8000000
namespace Go.Proofs.YtkfimdpcadbcpaaGreatDoor
section
open Go.RowKit Go.Extern.Stop Go.Stop Go.Extern
theorem zJI {w : World} (c : ByteArray) : Calls Tryz.prog 9 #[.nilIface, .int .i64 0, .string c] w fun e w' => e = .returned (.bool true) ∧ w = w' := by
  go_enter Tryz.func9, Tryz.ntmps9
  go_wp2
  go_ret
  exact ⟨rfl, rfl⟩
theorem zHg {w : World} (n : Int) (hn : n ≠ 0) (c : ByteArray) (ls : List ByteArray) (E : Value) (h : Chain w n (c :: ls) E) (hg : Laid w) :
    Calls Tryz.prog 9 #[E, .int .i64 n, .string c] w fun e w' => e = .returned (.bool true) ∧ Below w.heap.size w w' := by
  have hnb : (n == 0) = false := by simpa using hn
  have HC := lhd h
  cases h with
  | wrap b _ E1 l hc he h1 =>
  have hbl : b < w.heap.size := World.block_lt_of_cell? w ⟨b, 0, none⟩ hc
  have HCC := lhd hc
  have HG := lhd hg
  have hB : Below w.heap.size w ((w.alloc (.cells #[.int .i64 0] 72)).alloc (.cells #[.pointer none] 73)) := ((Below.refl _ _).alloc (Nat.le_refl _) _).alloc (by simp) _
  have HB := lhd hB
  clear hg hc he h1 hB hn
  go_enter Tryz.func9, Tryz.ntmps9
  go_wp2_with fail
  refine (zNw n ⟨w.heap.size, 0, none⟩ (.int .i64 0) _ _ (HC.out.mono HB.out) (by simp) (by simp) (HG.out.mono HB.out)).mono ?_
  rintro e w' ⟨rfl, w1, hb1, rfl⟩
  have hs1 : w.heap.size + 2 ≤ w1.heap.size := by have := hb1.size; simp at this; omega
  have HB1 := lhd ((HB.out.trans (hb1.mono (by simp; omega))).setCell (p := ⟨w.heap.size, 0, none⟩) (Nat.le_refl _) (.int .i64 n))
  have hn1 : w1.cell? ⟨w.heap.size, 0, none⟩ = some (.int .i64 0) := by rw [hb1.cell (p := ⟨w.heap.size, 0, none⟩) (by simp; omega)]; simp
  have hf1 : w1.cell? ⟨w.heap.size + 1, 0, none⟩ = some (.pointer none) := by rw [hb1.cell (p := ⟨w.heap.size + 1, 0, none⟩) (by simp)]; simp
  have hff1 : w1.frozen? ⟨w.heap.size + 1, 0, none⟩ = false := by rw [hb1.frozen (p := ⟨w.heap.size + 1, 0, none⟩) (by simp)]; simp
  have hn2 : (w1.setCell ⟨w.heap.size, 0, none⟩ (.int .i64 n)).cell? ⟨w.heap.size, 0, none⟩ = some (.int .i64 n) := World.cell?_setCell_same' _ _ _ (by rw [hn1]; rfl)
  have hf2 : (w1.setCell ⟨w.heap.size, 0, none⟩ (.int .i64 n)).cell? ⟨w.heap.size + 1, 0, none⟩ = some (.pointer none) := (World.cell?_setCell_other _ _ _ _ (by simp)).trans hf1
  have hff2 : (w1.setCell ⟨w.heap.size, 0, none⟩ (.int .i64 n)).frozen? ⟨w.heap.size + 1, 0, none⟩ = false := by rw [World.frozen?_setCell]; exact hff1
  have hs2 : w.heap.size + 2 ≤ (w1.setCell ⟨w.heap.size, 0, none⟩ (.int .i64 n)).heap.size := by simpa using hs1
  clear hn1 hf1 hff1 hs1 hb1
  generalize w1.setCell ⟨w.heap.size, 0, none⟩ (.int .i64 n) = w2 at *
  have HC2 := lhd ((HB1.out.cell (p := ⟨b, 0, none⟩) hbl).trans HCC.out)
  have HF2 := lhd hf2
  have HFF2 := lhd hff2
  have HN2 := lhd hn2
  clear hf2 hff2 hn2
  go_wp2_with fail
  refine (zLe ⟨w.heap.size + 1, 0, none⟩ ⟨b, 0, none⟩ (.pointer none) HF2.out HFF2.out (HG.out.mono HB1.out)).mono ?_
  rintro e w' ⟨rfl, w3, hb3, rfl⟩
  have HB3 := lhd ((HB1.out.trans (hb3.mono (by omega))).setCell (p := ⟨w.heap.size + 1, 0, none⟩) (by simp) (.pointer (some ⟨b, 0, none⟩)))
  have hf3 : w3.cell? ⟨w.heap.size + 1, 0, none⟩ = some (.pointer none) := by rw [hb3.cell (p := ⟨w.heap.size + 1, 0, none⟩) (by simp; omega)]; exact HF2.out
  have hn3 : (w3.setCell ⟨w.heap.size + 1, 0, none⟩ (.pointer (some ⟨b, 0, none⟩))).cell? ⟨w.heap.size, 0, none⟩ = some (.int .i64 n) := 
    (World.cell?_setCell_other _ _ _ _ (by simp)).trans ((hb3.cell (p := ⟨w.heap.size, 0, none⟩) (by simp; omega)).trans HN2.out)
  have hf4 : (w3.setCell ⟨w.heap.size + 1, 0, none⟩ (.pointer (some ⟨b, 0, none⟩))).cell? ⟨w.heap.size + 1, 0, none⟩ = some (.pointer (some ⟨b, 0, none⟩)) := World.cell?_setCell_same' _ _ _ (by rw [hf3]; rfl)
  have hc4 : (w3.setCell ⟨w.heap.size + 1, 0, none⟩ (.pointer (some ⟨b, 0, none⟩))).cell? ⟨b, 0, none⟩ = some (.string c) := (HB3.out.cell (p := ⟨b, 0, none⟩) hbl).trans HCC.out
  clear hf3 hb3
  generalize w3.setCell ⟨w.heap.size + 1, 0, none⟩ (.pointer (some ⟨b, 0, none⟩)) = w4 at *
  have hnn : (n == n) = true := by simp
  go_wp2
  go_ret
  exact ⟨rfl, HB3.out⟩
theorem zCW {w : World} (k : Int) (c : ByteArray) (E : Value) (h : ErrAns k c w E) (hg : Laid w) :
    Calls Tryz.prog 9 #[E, .int .i64 k, .string c] w fun e w' => e = .returned (.bool true) ∧ Below w.heap.size w w' := by
  rcases h with ⟨rfl, rfl⟩ | ⟨hk, ls, hc⟩
  · refine (zJI c).mono ?_
    rintro e w' ⟨rfl, rfl⟩
    exact ⟨rfl, Below.refl _ _⟩
  · exact zHg k hk c ls E hc hg
end

section
open Go.RowKit Go.Extern.Stop Go.Stop Go.Extern
theorem nil19 {At : SndAt} (hA : SnRep At) {w : World} (n : Int) (hn : I64 n) (hg : Laid w) (hD : DgTab w) (hT : Tab w) :
    Calls Tryz.prog 8 #[.int .i64 n] w fun e w' => e = .returned (.bool true) ∧ Below w.heap.size w w' := by
  have HG : Hid (∀ V, Below w.heap.size w V → Laid V) := lhd fun V hV => hg.mono hV
  have HAW : Hid (∀ V, Below w.heap.size w V → Calls Tryz.prog 12 #[] V fun e w' => e = .returned (.bool true) ∧ Below V.heap.size V w') := lhd fun V hV => zMX hA (PairsAt.mono hD hV) (hT.mono hV)
  have HN : Hid (∀ (V : World) (v : Value), ListAt byteV V v [97, 98] → Below w.heap.size w V → Calls Tryz.prog 14 #[cfgV plainC, v] V fun e w' => Below V.heap.size V w' ∧ ∃ g S, e = .returned (.tuple #[ptrAt g, .nilIface]) ∧ At w' V.heap.size w'.heap.size g S 0) :=
    lhd fun V v hv hb => (hA.new V plainC v [97, 98] zL9 hv (by intro x hx; simp at hx; omega) (PairsAt.mono hD hb) (hT.mono hb)).mono (by
      rintro e w' ⟨h1, ⟨h2, -⟩ | ⟨-, g, S, rfl, hS, hAt⟩⟩
      · exact absurd zGy h2
      · exact ⟨h1, g, S, rfl, hAt⟩)
  have HTN := lhd hA.tickNil
  have HSN := lhd fun V => hA.skipNil V n hn
  have HNN := lhd hA.nowNil
  have HPN := lhd hA.planNil
  have HD := lhd hD
  have HT := lhd hT
  have HL : Hid (∀ V : World, ListAt byteV (V.alloc (.cells #[.int .u8 97, .int .u8 98] 5 (2, 3))) (.slice (some ⟨V.heap.size, 0, none⟩) 2 2) [97, 98]) := lhd fun V => zHb V [97, 98] (by decide)
  have kc : ∀ V : World, (convert 31 31 (.slice (some ⟨V.heap.size, 0, none⟩) 2 2)).run Tryz.prog (V.alloc (.cells #[.int .u8 97, .int .u8 98] 5)) = .ok (.slice (some ⟨V.heap.size, 0, none⟩) 2 2) (V.alloc (.cells #[.int .u8 97, .int .u8 98] 5 (2, 3))) := fun V => zGL V #[.int .u8 97, .int .u8 98] 2 2
  unfold plV plC at HPN
  clear hD hT hg
  go_enter Tryz.func8, Tryz.ntmps8
  go_wp2_with fail
  with_reducible refine (HTN.out _).mono ?_
  rintro e w1 ⟨hb1, E1, rfl, hE1⟩
  have HB1 := lhd hb1
  have HT1 := lhd (zCW _ _ _ hE1 (HG.out _ hb1))
  clear hb1 hE1
  go_wp2_with fail
  refine HT1.out.mono ?_
  rintro e w2 ⟨rfl, hb2⟩
  have HB2 := lhd (HB1.out.trans (hb2.mono HB1.out.size))
  clear hb2
  go_wp2_with fail
  with_reducible refine (HSN.out _).mono ?_
  rintro e w3 ⟨hb3, E3, rfl, hE3⟩
  have HB3 := lhd (HB2.out.trans (hb3.mono HB2.out.size))
  have HT3 := lhd (zCW _ _ _ hE3 (HG.out _ HB3.out))
  clear hb3 hE3
  go_wp2_with fail
  refine HT3.out.mono ?_
  rintro e w4 ⟨rfl, hb4⟩
  have HB4 := lhd (HB3.out.trans (hb4.mono HB3.out.size))
  clear hb4
  go_wp2_with fail
  with_reducible refine (HNN.out _).mono ?_
  rintro e w5 ⟨rfl, hb5⟩
  have HB5 := lhd (HB4.out.trans (hb5.mono HB4.out.size))
  clear hb5
  go_wp2_with fail
  with_reducible refine (HPN.out _).mono ?_
  rintro e w6 ⟨rfl, hb6⟩
  have HB6 := lhd (HB5.out.trans (hb6.mono HB5.out.size))
  clear hb6
  go_wp2_with fail
  refine zNp.mono ?_
  rintro e w7 ⟨rfl, hb7⟩
  have HB7 := lhd ((HB6.out.trans (hb7.mono HB6.out.size)).alloc (Nat.le_trans HB6.out.size hb7.size) (.cells #[.int .u8 97, .int .u8 98] 5 (2, 3)))
  clear hb7
  go_wp2_with fail
  with_reducible refine (HN.out _ _ (HL.out w7) HB7.out).mono ?_
  rintro e w8 ⟨hb8, g, S, rfl, hAt⟩
  have HB8 := lhd (HB7.out.trans (hb8.mono HB7.out.size))
  have HZ := lhd HB7.out.size
  have HSK := lhd (hA.skip w8 _ _ g S 0 1099511627775 hAt ⟨by decide, by decide⟩)
  clear hb8 hAt
  unfold ptrAt at *
  go_wp2_with fail
  with_reducible refine HSK.out.mono ?_
  rintro e w9 ⟨hf, ⟨h, -⟩ | ⟨-, -, rfl, hAt⟩⟩
  · omega
  have HB9 := lhd (HB8.out.trans (hf.1.mono HZ.out))
  have HTI := lhd (hA.tick w9 _ _ g S _ hAt (PairsAt.mono HD.out HB9.out) (HT.out.mono HB9.out))
  clear hf hAt
  unfold ptrAt at *
  go_wp2_with fail
  with_reducible refine HTI.out.mono ?_
  rintro e wA ⟨hf, ⟨-, E, rfl, hE, hAt⟩ | ⟨h, -⟩⟩
  rotate_left
  · exact absurd h (by decide)
  have HBA := lhd (HB9.out.trans (hf.1.mono HZ.out))
  have HTA := lhd (zCW _ _ _ hE (HG.out _ HBA.out))
  have HNW := lhd fun (V : World) (hV : Below wA.heap.size wA V) => hA.now V _ _ g S _ (hA.far hAt (fun x _ hx => hV.block x (by have := (hA.le hAt).2; omega)) hV.size)
  clear hf hE hAt
  unfold ptrAt at *
  go_wp2_with fail
  refine HTA.out.mono ?_
  rintro e wB ⟨rfl, hbB⟩
  have HBB := lhd (HBA.out.trans (hbB.mono HBA.out.size))
  have HNB := lhd (HNW.out _ hbB)
  clear hbB
  go_wp2_with fail
  with_reducible refine HNB.out.mono ?_
  rintro e wC ⟨rfl, hbC⟩
  have HBC := lhd (HBB.out.trans (hbC.mono HBB.out.size))
  clear hbC
  go_wp2_with fail
  with_reducible refine (HAW.out _ HBC.out).mono ?_
  rintro e wD ⟨rfl, hbD⟩
  have HBD := lhd (HBC.out.trans (hbD.mono HBC.out.size))
  clear hbD
  go_wp2
  go_ret
  exact ⟨rfl, HBD.out⟩
end
end Go.Proofs.YtkfimdpcadbcpaaGreatDoor
