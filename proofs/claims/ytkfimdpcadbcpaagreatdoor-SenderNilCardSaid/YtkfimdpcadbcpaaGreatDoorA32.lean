import Derived.Test.YtkfimdpcadbcpaaGreatDoorA31
import Derived.BigQuiet
import Derived.Deep.Cut
import Derived.Laws.CopyOwn
import Derived.Deep.AppendLies
import Derived.Deep.RegionLaw
import Derived.BigRegion
import Derived.Deep.RegionHeld
import Derived.Test.YtkfimdpcadbcpaaGreatDoorA26
import Derived.Test.YtkfimdpcadbcpaaGreatDoorA28
import Derived.Test.YtkfimdpcadbcpaaGreatDoorA29
import Derived.Test.YtkfimdpcadbcpaaGreatDoorA30
import Derived.Test.YtkfimdpcadbcpaaGreatDoorA12
import Derived.Test.YtkfimdpcadbcpaaGreatDoorA11
import Derived.Test.YtkfimdpcadbcpaaGreatDoorA23
import Derived.Test.YtkfimdpcadbcpaaGreatDoorA08
import Derived.Test.YtkfimdpcadbcpaaGreatDoorA18
import Derived.Test.YtkfimdpcadbcpaaGreatDoorA13
import Derived.Test.YtkfimdpcadbcpaaGreatDoorA01
set_option linter.unusedSimpArgs false
set_option linter.unusedVariables false
set_option maxRecDepth 1000000
set_option maxHeartbeats 8000000
namespace Go.Proofs.YtkfimdpcadbcpaaGreatDoor
section
open Go.RowKit Go.Extern.Stop Go.Stop Go.Extern
theorem zLs {w w' : World} {B n g : Nat} {e t : TypeId} {v : Value} {xs : List Value} {cur : Array Value} {z : Nat × Nat} (hgg : w.heap[g]? = some (Obj.cells cur t z)) (ho : w.ownsRow B e 1 v n xs) (hg : w.grownBy w' v.ownBlock) (hne : t ≠ e) : w'.heap[g]? = some (Obj.cells cur t z) := by
  rw [← hgg]
  exact hg.block g (Array.getElem?_eq_some_iff.1 hgg).1 fun eq => by
    rcases ho.2 with ⟨rfl, _⟩ | ⟨g', cap, cur', rfl, _, hg', _⟩
    · simp [Value.ownBlock] at eq
    · have : g = g' := by simpa [Value.ownBlock] using eq
      rw [this, hg'] at hgg
      simp at hgg
      exact hne hgg.2.1.symm
theorem zKX {w : World} {g : Nat} {o u : Obj} (h : w.heap[g]? = some o) : (w.alloc u).heap[g]? = some o := by
  have hl := (Array.getElem?_eq_some_iff.1 h).1
  rw [← h]
  exact ((Below.refl w.heap.size w).alloc (Nat.le_refl _) u).block g hl
structure RowBox (w : World) (B bx : Nat) (F : List Nat) : Prop where
  ex : ∃ v, w.heap[bx]? = some (.cells #[v] 32 (0, 0)) ∧ w.ownsRow B 3 1 v F.length (F.map cnkV)
  le : B ≤ bx
theorem zBw {w : World} (bx B a b : Nat) (F : List Nat) (h : RowBox w B bx F) (hB : B ≤ w.heap.size) (hF : F.length ≤ 500) (ha : a ≤ 256) (hb : b ≤ 256) :
    Calls Tryz.prog 204 #[.int .i64 (a : Int), .int .i64 (b : Int), .pointer (some ⟨bx, 0, none⟩)] w fun e w' => (∃ v, e = .returned v) ∧ RowBox w' B bx (F ++ List.range' a (b - a)) ∧ Below B w w' := by
  obtain ⟨i0, hi, hz0, hz1, hz2⟩ := info_parts zAR
  have H := lhd h
  have HSZ := lhd hB
  clear h
  go_enter Tryz.func204, Tryz.ntmps204
  go_wp2_with fail
  go_loopw [5] (fun i wr => ∃ j : Nat, j ≤ b - a ∧ i = .int .i64 ((a + j : Nat) : Int) ∧ RowBox wr B bx (F ++ List.range' a j) ∧ Below B w wr) (fun i _ => a + b - (intOf i).toNat)
  case atStart => exact ⟨0, Nat.zero_le _, rfl, by simpa using H.out, Below.refl _ _⟩
  case round =>
    obtain ⟨j, hj, rfl, hrb, hbel⟩ := hrel
    have HB := lhd hbel
    have HS2 := lhd (Nat.le_trans hB hbel.size)
    have HR := lhd hrb
    clear hrb hbel
    obtain ⟨x, hx⟩ : ∃ x, x = a + j := ⟨_, rfl⟩
    rw [← hx]
    have HX := lhd hx
    by_cases hlt : x < b
    · have d1 : decide ((x : Int) < (b : Int)) = true := decide_eq_true (by omega)
      obtain ⟨v, hbox, how⟩ := HR.out.ex
      have hc := zAa (j := 0) (u := v) hbox rfl
      have hfz := zAb (j := 0) hbox
      obtain ⟨E, hE⟩ : ∃ E, E = F ++ List.range' a j := ⟨_, rfl⟩
      have hEl : E.length ≤ 1000 := by rw [hE, List.length_append, List.length_range']; omega
      have HSN : Hid (F ++ List.range' a (j + 1) = E ++ [x]) := lhd (by rw [hE, List.append_assoc, hx, List.range'_1_concat])
      rw [← hE] at how
      obtain ⟨ao, cap, hv, -, -⟩ := zAe how
      generalize hq : E.length = q at *
      have HQ := lhd hq
      have HO := lhd (how.alloc (.cells #[.int .i64 (x : Int)] 3))
      have HBX := lhd (zKX (u := .cells #[.int .i64 (x : Int)] 3) hbox)
      have HBA := lhd (HB.out.alloc HS2.out (.cells #[.int .i64 (x : Int)] 3))
      have HEND : Hid (∀ (v2 : Value) (w2 : World), w2.ownsRow B 3 1 v2 (q + 1) (E.map cnkV ++ [.int .i64 (x : Int)]) → (wr.alloc (.cells #[.int .i64 (x : Int)] 3)).grownBy w2 v.ownBlock →
          RowBox (w2.setCell ⟨bx, 0, none⟩ v2) B bx (E ++ [x]) ∧ Below B w (w2.setCell ⟨bx, 0, none⟩ v2) ∧ w2.cell? ⟨bx, 0, none⟩ = some v ∧ w2.frozen? ⟨bx, 0, none⟩ = false) := lhd fun v2 w2 h1 h2 => by
        have k1 := zLs HBX.out HO.out h2 (by decide)
        refine ⟨⟨⟨v2, ?_, ?_⟩, HR.out.le⟩, ?_, zAa k1 rfl, zAb k1⟩
        · rw [zAc k1]; rfl
        · refine zAJ ?_ k1 (by decide) _ _
          have := zLA HQ.out (f := cnkV) (x := x) h1
          exact this
        · exact ((HBA.out).grown h2 (by have := HS2.out; simp; omega) (fun k hk => (HO.out.lt k hk).1)).setCell (p := ⟨bx, 0, none⟩) HR.out.le _
      clear hbox how hx hE hq
      subst hv
      go_wp2_with (at_builtin; refine wpList_append_own _ rfl (.tmp 12) (.tmp 14) 32 rfl B 3 i0 (.int .i64 0) 1 8 Tryz.underlying32 hi hz0 hz1 hz2 rfl (by decide) (.slice ao q cap) q (E.map cnkV) rfl HO.out ⟨wr.heap.size, 0, none⟩ 1 1 [.int .i64 (x : Int)] rfl rfl (cell_one_new _ _ _) (fun x hx => by simp at hx; subst hx; rfl) (by unfold maxLen; omega) (by omega) (by have := HS2.out; simp; omega) ?_; intro v5 w5 hown1 hgrow1 _; obtain ⟨a5, c5, hv5, -, -⟩ := zAe hown1; subst hv5; obtain ⟨hE1, hE2, hc1, hc2⟩ := HEND.out _ w5 hown1 hgrow1; have HE1 := lhd hE1; have HE2 := lhd hE2; clear hown1 hgrow1 hE1 hE2)
      go_wp2
      go_roundw
      case rel => exact ⟨j + 1, by have := HX.out; omega, by have := HX.out; subst this; go_num, by rw [HSN.out]; exact HE1.out, HE2.out⟩
      case measure => simp [intOf]; omega
    · have d1 : decide ((x : Int) < (b : Int)) = false := decide_eq_false (by omega)
      have HJ : Hid (j = b - a) := lhd (by omega)
      clear hx
      go_wp2
      go_end0
      rw [← HJ.out]
      exact ⟨⟨_, rfl⟩, HR.out, HB.out⟩
end

section
open Go.RowKit Go.Extern.Stop Go.Stop Go.Extern
theorem zLY {w : World} {B : Nat} {v : Value} (h : w.ownsRow B 3 1 v 0 []) (hB : B ≤ w.heap.size) : RowBox (w.alloc (.cells #[v] 32)) B w.heap.size [] :=
  ⟨⟨v, heap_alloc_new _ _, zAh h ((Below.refl _ _).alloc (Nat.le_refl _) _)⟩, hB⟩
theorem zDo {w : World} (g l : Int) (s : Nat) (hg : I64 g) (hl : I64 l) (hs : s < 4294967296) (hm : mayB g l = false) : Calls Tryz.prog 177 #[.int .i64 g, .int .i64 l, .int .u32 (s : Int)] w fun e w' => Below w.heap.size w w' ∧ ∃ E, e = .returned (.tuple #[nilS, E]) ∧ ErrAns 1 nameStChunks w' E := by
  have HR : Hid (∀ V : World, Calls Tryz.prog 55 #[.int .i64 g, .int .i64 l] V fun e w' => e = .returned (.int .i64 (if mayB g l then ((rateN l.toNat : Nat) : Int) else 0)) ∧ V = w') := lhd fun V => zBi g l hg hl
  rw [hm] at HR
  have HN := lhd (zAK nameStChunks 1 w)
  go_enter Tryz.func177, Tryz.ntmps177
  go_wp2_with fail
  with_reducible refine (HR.out w).mono ?_
  rintro e w1 ⟨rfl, rfl⟩
  go_wp2_with fail
  refine HN.out.mono ?_
  rintro e w1 ⟨E, rfl, hE, hb⟩
  have HE := lhd hE
  have HB := lhd hb
  clear hE hb
  go_wp2
  go_ret2
  exact ⟨HB.out, E, rfl, HE.out⟩
theorem zDX {w : World} (g m s : Nat) (hg : g = m + 0 + 1) (h8 : g ≤ 8) (hs : s < 4294967296) : Calls Tryz.prog 177 #[.int .i64 (g : Int), .int .i64 0, .int .u32 (s : Int)] w fun e w' => Below w.heap.size w w' ∧ ∃ v', e = .returned (.tuple #[v', .nilIface]) ∧ w'.ownsRow w.heap.size 3 1 v' (layL m s 0).length ((layL m s 0).map cnkV) := by
  obtain ⟨i0, hi, hz0, hz1, hz2⟩ := info_parts zAR
  have HR : Hid (∀ V : World, Calls Tryz.prog 55 #[.int .i64 (g : Int), .int .i64 0] V fun e w' => e = .returned (.int .i64 1) ∧ V = w') := lhd fun V => by
    have h := zBi (w := V) (g : Int) 0 ⟨by omega, by omega⟩ ⟨by omega, by omega⟩
    rw [show mayB (g : Int) 0 = true from decide_eq_true ⟨by omega, by omega, by omega, by omega⟩] at h
    exact h
  have HS : Hid (∀ V : World, Calls Tryz.prog 205 #[.int .i64 (g : Int), .int .i64 0, .int .u32 (s : Int)] V fun e w' => e = .returned (.tuple #[.int .i64 ((levF m s * 2 ^ 0 : Nat) : Int), .int .i64 1]) ∧ V = w') := lhd fun V => zCv g m 0 s hg (by omega) hs
  have HL : Hid (layL m s 0 = [] ++ List.range' (levF m s * 2 ^ 0) (levF m s * 2 ^ 0 + 1 - levF m s * 2 ^ 0)) := lhd (by
    rw [Nat.add_sub_cancel_left]
    rfl)
  have hFb : levF m s * 2 ^ 0 ≤ 128 := by
    have h1 := zEr m s
    have h2 : 2 ^ m ≤ 2 ^ 7 := zAl (by omega)
    omega
  generalize levF m s * 2 ^ 0 = F at *
  clear hg
  go_enter Tryz.func177, Tryz.ntmps177
  go_wp2_with fail
  with_reducible refine (HR.out w).mono ?_
  rintro e w1 ⟨rfl, rfl⟩
  go_wp2_with (at_make; refine wpList_make_own _ rfl _ _ 32 rfl w.heap.size 3 i0 (.int .i64 0) 1 Tryz.underlying32 hi hz0 hz1 .i64 .i64 _ 1 rfl rfl rfl (by rw [hz2]; omega) (by unfold maxLen; omega) (Nat.le_refl _) ?_; intro w0 hown0 hgrow0; have hb0 := lhd ((Below.refl w.heap.size w).grown hgrow0 (Nat.le_refl _) (fun k hk => by cases hk)); have ho0 := lhd hown0; clear hown0 hgrow0)
  have HRB := lhd (zLY (v := .slice (some ⟨w.heap.size, 0, none⟩) 0 1) ho0.out hb0.out.size)
  have HB1 := lhd (hb0.out.alloc hb0.out.size (.cells #[.slice (some ⟨w.heap.size, 0, none⟩) 0 1] 32))
  clear ho0 hb0
  with_reducible refine (HS.out _).mono ?_
  rintro e w1 ⟨rfl, rfl⟩
  have HG : Hid (∀ V : World, RowBox V w.heap.size w0.heap.size [] → Below w.heap.size w V → Calls Tryz.prog 204 #[.int .i64 (F : Int), .int .i64 ((F : Int) + 1), .pointer (some ⟨w0.heap.size, 0, none⟩)] V fun e w' => (∃ v, e = .returned v) ∧ RowBox w' w.heap.size w0.heap.size ([] ++ List.range' F (F + 1 - F)) ∧ Below w.heap.size V w') :=
    lhd fun V h1 h2 => by
      have h := zBw w0.heap.size w.heap.size F (F + 1) [] h1 h2.size (by decide) (by omega) (by omega)
      rwa [show ((F + 1 : Nat) : Int) = (F : Int) + 1 by push_cast; rfl] at h
  go_wp2_with fail
  with_reducible refine (HG.out _ HRB.out HB1.out).mono ?_
  rintro e w2 ⟨⟨v2, rfl⟩, hr2, hb2⟩
  have HB2 := lhd (HB1.out.trans hb2)
  obtain ⟨v3, hbox, how⟩ := hr2.ex
  rw [← HL.out] at how
  have HO := lhd how
  have hc := zAa (j := 0) (u := v3) hbox rfl
  obtain ⟨a3, c3, hv3, -, -⟩ := zAe how
  clear hr2 hb2 hbox how
  subst hv3
  go_wp2
  go_ret2
  exact ⟨HB2.out, _, rfl, HO.out⟩
theorem zD4 {w : World} (g m l s : Nat) (hg : g = m + (l + 1) + 1) (h8 : g ≤ 8) (hs : s < 4294967296) : Calls Tryz.prog 177 #[.int .i64 (g : Int), .int .i64 ((l + 1 : Nat) : Int), .int .u32 (s : Int)] w fun e w' => Below w.heap.size w w' ∧ ∃ v', e = .returned (.tuple #[v', .nilIface]) ∧ w'.ownsRow w.heap.size 3 1 v' (layL m s (l + 1)).length ((layL m s (l + 1)).map cnkV) := by
  obtain ⟨i0, hi, hz0, hz1, hz2⟩ := info_parts zAR
  have HR : Hid (∀ V : World, Calls Tryz.prog 55 #[.int .i64 (g : Int), .int .i64 ((l + 1 : Nat) : Int)] V fun e w' => e = .returned (.int .i64 ((2 ^ l : Nat) : Int)) ∧ V = w') := lhd fun V => by
    have h := zBi (w := V) (g : Int) ((l + 1 : Nat) : Int) ⟨by omega, by omega⟩ ⟨by omega, by omega⟩
    rw [show mayB (g : Int) ((l + 1 : Nat) : Int) = true from decide_eq_true ⟨by omega, by omega, by omega, by omega⟩] at h
    exact h
  have HS : Hid (∀ V : World, Calls Tryz.prog 205 #[.int .i64 (g : Int), .int .i64 ((l + 1 : Nat) : Int), .int .u32 (s : Int)] V fun e w' => e = .returned (.tuple #[.int .i64 ((levF m s * 2 ^ (l + 1) : Nat) : Int), .int .i64 ((2 ^ (l + 1) : Nat) : Int)]) ∧ V = w') := lhd fun V => zCv g m (l + 1) s hg (by omega) hs
  have HT : Hid (∀ V : World, Calls Tryz.prog 205 #[.int .i64 (g : Int), .int .i64 (l : Int), .int .u32 (s : Int)] V fun e w' => e = .returned (.tuple #[.int .i64 ((levF (m + 1) s * 2 ^ l : Nat) : Int), .int .i64 ((2 ^ l : Nat) : Int)]) ∧ V = w') := lhd fun V => zCv g (m + 1) l s (by omega) (by omega) hs
  have hend := zLF m (l + 1) s
  have hpe : 2 ^ (m + (l + 1)) ≤ 2 ^ 7 := zAl (by omega)
  have hH0 : 0 < 2 ^ l := Nat.two_pow_pos l
  have hf := zE4 m s
  have hb2 : s / 2 ^ m % 2 < 2 := Nat.mod_lt _ (by decide)
  have hA : levF m s * 2 ^ (l + 1) = 2 * (levF m s * 2 ^ l) := by rw [Nat.pow_succ, ← Nat.mul_assoc, Nat.mul_comm]
  have hM : 2 ^ (l + 1) = 2 * 2 ^ l := by rw [Nat.pow_succ, Nat.mul_comm]
  have hB : levF (m + 1) s * 2 ^ l = 2 * (levF m s * 2 ^ l) + (s / 2 ^ m % 2) * 2 ^ l := by rw [hf, Nat.add_mul, Nat.mul_assoc]
  have hlay : layL m s (l + 1) = List.range' (2 * (levF m s * 2 ^ l) + (1 - s / 2 ^ m % 2) * 2 ^ l) (2 ^ l) := by
    show List.range' ((2 * levF m s + (1 - s / 2 ^ m % 2)) * 2 ^ l) (2 ^ l) = _
    rw [Nat.add_mul, Nat.mul_assoc]
  generalize layL m s (l + 1) = L at *
  generalize levF m s * 2 ^ (l + 1) = A at *
  generalize 2 ^ (l + 1) = M at *
  generalize levF (m + 1) s * 2 ^ l = C at *
  generalize levF m s * 2 ^ l = D at *
  generalize s / 2 ^ m % 2 = b at *
  generalize 2 ^ l = H at *
  have hL : L = ([] ++ List.range' A (C - A)) ++ List.range' (C + H) (A + M - (C + H)) ∧ A ≤ C ∧ C + H ≤ A + M ∧ (C - A) ≤ 128 := by
    obtain rfl | rfl : b = 0 ∨ b = 1 := by omega
    · have e1 : C - A = 0 := by omega
      have e2 : A + M - (C + H) = H := by omega
      refine ⟨?_, by omega, by omega, by omega⟩
      rw [hlay, e1, e2, show C + H = 2 * D + (1 - 0) * H by omega]
      rfl
    · have e1 : C - A = H := by omega
      have e2 : A + M - (C + H) = 0 := by omega
      refine ⟨?_, by omega, by omega, by omega⟩
      rw [hlay, e1, e2, show A = 2 * D + (1 - 1) * H by omega]
      simp
  obtain ⟨hL1, hL2, hL3, hL4⟩ := hL
  have HL := lhd hL1
  have hK1 : ((l + 1 : Nat) : Int) - 1 = (l : Int) := by omega
  have hK8 : ((l + 1 : Nat) : Int) ≤ 7 := by omega
  have hK2 : 1 ≤ ((l + 1 : Nat) : Int) := by omega
  have hA8 : A ≤ 128 := by omega
  have hC8 : C ≤ 128 := by omega
  have hH8 : H ≤ 128 := by omega
  have hM8 : M ≤ 128 := by omega
  generalize ((l + 1 : Nat) : Int) = K at *
  have hK0 : (K == 0) = false := by simp; omega
  have hKe : ¬ K = 0 := by omega
  have hH1 : ((H : Int) == 0) = false := by simp; omega
  have hHe : ¬ (H : Int) = 0 := by omega
  clear hg hlay hA hM hB hf hb2 hend hpe hL1
  go_enter Tryz.func177, Tryz.ntmps177
  go_wp2_with fail
  with_reducible refine (HR.out w).mono ?_
  rintro e w1 ⟨rfl, rfl⟩
  go_wp2_with (at_make; refine wpList_make_own _ rfl _ _ 32 rfl w.heap.size 3 i0 (.int .i64 0) 1 Tryz.underlying32 hi hz0 hz1 .i64 .i64 _ H rfl rfl rfl (by rw [hz2]; omega) (by unfold maxLen; omega) (Nat.le_refl _) ?_; intro w0 hown0 hgrow0; have hb0 := lhd ((Below.refl w.heap.size w).grown hgrow0 (Nat.le_refl _) (fun k hk => by cases hk)); have ho0 := lhd hown0; clear hown0 hgrow0)
  have HRB := lhd (zLY (v := .slice (some ⟨w.heap.size, 0, none⟩) 0 H) ho0.out hb0.out.size)
  have HB1 := lhd (hb0.out.alloc hb0.out.size (.cells #[.slice (some ⟨w.heap.size, 0, none⟩) 0 H] 32))
  clear ho0 hb0
  with_reducible refine (HS.out _).mono ?_
  rintro e w1 ⟨rfl, rfl⟩
  have HG : Hid (∀ V : World, RowBox V w.heap.size w0.heap.size [] → Below w.heap.size w V → Calls Tryz.prog 204 #[.int .i64 (A : Int), .int .i64 (C : Int), .pointer (some ⟨w0.heap.size, 0, none⟩)] V fun e w' => (∃ v, e = .returned v) ∧ RowBox w' w.heap.size w0.heap.size ([] ++ List.range' A (C - A)) ∧ Below w.heap.size V w') :=
    lhd fun V h1 h2 => zBw w0.heap.size w.heap.size A C [] h1 h2.size (by decide) (by omega) (by omega)
  have HG2 : Hid (∀ V : World, RowBox V w.heap.size w0.heap.size ([] ++ List.range' A (C - A)) → Below w.heap.size w V → Calls Tryz.prog 204 #[.int .i64 ((C : Int) + (H : Int)), .int .i64 ((A : Int) + (M : Int)), .pointer (some ⟨w0.heap.size, 0, none⟩)] V fun e w' => (∃ v, e = .returned v) ∧ RowBox w' w.heap.size w0.heap.size (([] ++ List.range' A (C - A)) ++ List.range' (C + H) (A + M - (C + H))) ∧ Below w.heap.size V w') :=
    lhd fun V h1 h2 => by
      have h := zBw w0.heap.size w.heap.size (C + H) (A + M) _ h1 h2.size (by simp; omega) (by omega) (by omega)
      rwa [show ((C + H : Nat) : Int) = (C : Int) + (H : Int) by push_cast; rfl, show ((A + M : Nat) : Int) = (A : Int) + (M : Int) by push_cast; rfl] at h
  go_wp2_with fail
  with_reducible refine (HT.out _).mono ?_
  rintro e w1 ⟨rfl, rfl⟩
  go_wp2_with fail
  with_reducible refine (HG.out _ HRB.out HB1.out).mono ?_
  rintro e w2 ⟨⟨v2, rfl⟩, hr2, hb2⟩
  have HB2 := lhd (HB1.out.trans hb2)
  have HR2 := lhd hr2
  clear hr2 hb2
  go_wp2_with fail
  with_reducible refine (HG2.out _ HR2.out HB2.out).mono ?_
  rintro e w3 ⟨⟨v2, rfl⟩, hr2, hb2⟩
  have HB3 := lhd (HB2.out.trans hb2)
  obtain ⟨v3, hbox, how⟩ := hr2.ex
  rw [← HL.out] at how
  have HO := lhd how
  have hc := zAa (j := 0) (u := v3) hbox rfl
  obtain ⟨a3, c3, hv3, -, -⟩ := zAe how
  clear hr2 hb2 hbox how
  subst hv3
  go_wp2
  go_ret2
  exact ⟨HB3.out, _, rfl, HO.out⟩
theorem zJ5 : StChunksC := fun w g l s hg hl hs => by
  cases hm : mayB g l with
  | false =>
    refine (zDo g l s hg hl hs hm).mono ?_
    rintro e w' ⟨h1, h2⟩
    exact ⟨h1, .inl ⟨rfl, h2⟩⟩
  | true =>
    obtain ⟨p1, p2, p3, p4⟩ := zJq hm
    obtain ⟨k, rfl⟩ := Int.eq_ofNat_of_zero_le p3
    obtain ⟨G, rfl⟩ := Int.eq_ofNat_of_zero_le (show 0 ≤ g by omega)
    obtain ⟨m, hmd⟩ : ∃ m, G = m + k + 1 := ⟨G - k - 1, by omega⟩
    rw [show ((G : Int) - 1 - (k : Int)).toNat = m by omega, show ((k : Int)).toNat = k by omega]
    cases k with
    | zero =>
      refine (zDX G m s hmd (by omega) hs).mono ?_
      rintro e w' ⟨h1, h2⟩
      exact ⟨h1, .inr ⟨rfl, h2⟩⟩
    | succ l =>
      refine (zD4 G m l s hmd (by omega) hs).mono ?_
      rintro e w' ⟨h1, h2⟩
      exact ⟨h1, .inr ⟨rfl, h2⟩⟩
end

section
open Go.RowKit Go.Extern.Stop Go.Stop Go.Extern
theorem zIy {w : World} (g n l : Int) (s : Nat) (hg : I64 g) (hn : I64 n) (hl : I64 l) (hs : s < 4294967296) (hm : mayB g l = false) : Calls Tryz.prog 147 #[.int .i64 g, .int .i64 n, .int .i64 l, .int .u32 (s : Int)] w fun e w' => Below w.heap.size w w' ∧ ∃ E, e = .returned (.tuple #[nilS, E]) ∧ ErrAns 1 nameStEsis w' E := by
  have HC := lhd (zDo (w := w) g l s hg hl hs hm)
  go_enter Tryz.func147, Tryz.ntmps147
  go_wp2_with fail
  with_reducible refine HC.out.mono ?_
  rintro e w1 ⟨hb, E, rfl, hE⟩
  have HB1 := lhd hb
  have HE := lhd hE
  obtain ⟨u, x, rfl⟩ := hE.some (by decide)
  clear hb hE
  go_wp2_with fail
  refine (zD3 nameStEsis nameStChunks 1 _ _ (by decide) HE.out).mono ?_
  rintro e w2 ⟨E', rfl, hE, hb⟩
  have HE2 := lhd hE
  have HB := lhd (HB1.out.trans (hb.mono HB1.out.size))
  clear hE hb
  go_wp2
  go_ret2
  exact ⟨HB.out, E', rfl, HE2.out⟩
theorem zIe {w : World} (g l s : Nat) (n : Int) (hg : g ≤ 8) (hl : l ≤ 8) (hn : I64 n) (F : List Nat) (hno : n < 1 ∨ n > 65536)
    (hc : ∀ V : World, Calls Tryz.prog 177 #[.int .i64 (g : Int), .int .i64 (l : Int), .int .u32 (s : Int)] V fun e w' => Below V.heap.size V w' ∧ ∃ v', e = .returned (.tuple #[v', .nilIface]) ∧ w'.ownsRow V.heap.size 3 1 v' F.length (F.map cnkV)) :
    Calls Tryz.prog 147 #[.int .i64 (g : Int), .int .i64 n, .int .i64 (l : Int), .int .u32 (s : Int)] w fun e w' => Below w.heap.size w w' ∧ ∃ E, e = .returned (.tuple #[nilS, E]) ∧ ErrAns 1 nameStEsis w' E := by
  have HC := lhd hc
  clear hc
  by_cases h1 : n < 1
  · clear hno
    go_enter Tryz.func147, Tryz.ntmps147
    go_wp2_with fail
    with_reducible refine (HC.out w).mono ?_
    rintro e w1 ⟨hb1, v1, rfl, ho1⟩
    have HB1 := lhd hb1
    have HO1 := lhd ho1
    obtain ⟨a1, c1, hv1, -, hg1⟩ := zAe ho1
    subst hv1
    have HG1 := lhd hg1
    clear ho1 hb1 hg1
    go_wp2_with fail
    refine (zAK nameStEsis 1 _).mono ?_
    rintro e w2 ⟨E, rfl, hE, hb⟩
    have HE := lhd hE
    have HB := lhd (HB1.out.trans (hb.mono HB1.out.size))
    clear hE hb
    go_wp2
    go_ret2
    exact ⟨HB.out, E, rfl, HE.out⟩
  · have h2 : n > 65536 := by omega
    clear hno
    go_enter Tryz.func147, Tryz.ntmps147
    go_wp2_with fail
    with_reducible refine (HC.out w).mono ?_
    rintro e w1 ⟨hb1, v1, rfl, ho1⟩
    have HB1 := lhd hb1
    have HO1 := lhd ho1
    obtain ⟨a1, c1, hv1, -, hg1⟩ := zAe ho1
    subst hv1
    have HG1 := lhd hg1
    clear ho1 hb1 hg1
    go_wp2_with fail
    refine (zAK nameStEsis 1 _).mono ?_
    rintro e w2 ⟨E, rfl, hE, hb⟩
    have HE := lhd hE
    have HB := lhd (HB1.out.trans (hb.mono HB1.out.size))
    clear hE hb
    go_wp2
    go_ret2
    exact ⟨HB.out, E, rfl, HE.out⟩
theorem zFS {w : World} (g l s n k P y : Nat) (F : List Nat) (hk : (g : Int) - 1 = (k : Int)) (hg : g ≤ 8) (hl : l ≤ 8) (hPk : 2 ^ k = P) (hn1 : 1 ≤ n) (hn : n ≤ 65536) (hy : n % P = y) (hy0 : y ≠ 0)
    (hc : ∀ V : World, Calls Tryz.prog 177 #[.int .i64 (g : Int), .int .i64 (l : Int), .int .u32 (s : Int)] V fun e w' => Below V.heap.size V w' ∧ ∃ v', e = .returned (.tuple #[v', .nilIface]) ∧ w'.ownsRow V.heap.size 3 1 v' F.length (F.map cnkV)) :
    Calls Tryz.prog 147 #[.int .i64 (g : Int), .int .i64 (n : Int), .int .i64 (l : Int), .int .u32 (s : Int)] w fun e w' => Below w.heap.size w w' ∧ ∃ E, e = .returned (.tuple #[nilS, E]) ∧ ErrAns 2 nameStEsis w' E := by
  have HC := lhd hc
  clear hc
  have hK1 : (g : Int) - 1 = (k : Int) := hk
  have hL2 : (2 : Int) ^ k = (P : Int) := by rw [← hPk]; push_cast; rfl
  have hP : 0 < P := by rw [← hPk]; exact Nat.two_pow_pos k
  have hP2 : P ≤ 128 := by rw [← hPk]; exact Nat.le_trans (zAl (n := 7) (by omega)) (by decide)
  have hPn : ((P : Int) == 0) = false := by simp; omega
  have hPe : ¬ (P : Int) = 0 := by omega
  have hPz : ¬ P = 0 := by omega
  have hmod : (n : Int).tmod (P : Int) = (y : Int) := by rw [← hy]; exact Int.ofNat_tmod ..
  have hyn : ((y : Int) == 0) = false := by simp; omega
  have hye : ¬ (y : Int) = 0 := by omega
  clear hPk hy
  go_enter Tryz.func147, Tryz.ntmps147
  go_wp2_with fail
  with_reducible refine (HC.out w).mono ?_
  rintro e w1 ⟨hb1, v1, rfl, ho1⟩
  have HB1 := lhd hb1
  have HO1 := lhd ho1
  obtain ⟨a1, c1, hv1, -, hg1⟩ := zAe ho1
  subst hv1
  have HG1 := lhd hg1
  clear ho1 hb1 hg1
  go_wp2_with fail
  refine (zAK nameStEsis 2 _).mono ?_
  rintro e w2 ⟨E, rfl, hE, hb⟩
  have HE := lhd hE
  have HB := lhd (HB1.out.trans (hb.mono HB1.out.size))
  clear hE hb
  go_wp2
  go_ret2
  exact ⟨HB.out, E, rfl, HE.out⟩
theorem zID {w : World} (g l s n k P z : Nat) (F : List Nat) (hk : (g : Int) - 1 = (k : Int)) (hg : g ≤ 8) (hl : l ≤ 8) (hPk : 2 ^ k = P) (hn1 : 1 ≤ n) (hn : n ≤ 65536) (hy : n % P = 0) (hz : n / P = z) (hF : F.length ≤ 128) (hFb : ∀ c ∈ F, c < 128)
    (hc : ∀ V : World, Calls Tryz.prog 177 #[.int .i64 (g : Int), .int .i64 (l : Int), .int .u32 (s : Int)] V fun e w' => Below V.heap.size V w' ∧ ∃ v', e = .returned (.tuple #[v', .nilIface]) ∧ w'.ownsRow V.heap.size 3 1 v' F.length (F.map cnkV)) :
    Calls Tryz.prog 147 #[.int .i64 (g : Int), .int .i64 (n : Int), .int .i64 (l : Int), .int .u32 (s : Int)] w fun e w' => Below w.heap.size w w' ∧ ∃ v', e = .returned (.tuple #[v', .nilIface]) ∧ w'.ownsRow w.heap.size 3 1 v' (stEsiTo z F).length ((stEsiTo z F).map cnkV) := by
  obtain ⟨i0, hi, hz0, hz1, hz2⟩ := info_parts zAR
  have HC := lhd hc
  clear hc
  have hK1 : (g : Int) - 1 = (k : Int) := hk
  have hL2 : (2 : Int) ^ k = (P : Int) := by rw [← hPk]; push_cast; rfl
  have hP : 0 < P := by rw [← hPk]; exact Nat.two_pow_pos k
  have hP2 : P ≤ 128 := by rw [← hPk]; exact Nat.le_trans (zAl (n := 7) (by omega)) (by decide)
  have hPn : ((P : Int) == 0) = false := by simp; omega
  have hPe : ¬ (P : Int) = 0 := by omega
  have hPz : ¬ P = 0 := by omega
  have hmod : (n : Int).tmod (P : Int) = 0 := by have := Int.ofNat_tmod n P; rw [hy] at this; exact this.symm
  have hdiv : (n : Int).tdiv (P : Int) = (z : Int) := by rw [← hz]; exact Int.ofNat_tdiv ..
  have hzb : z ≤ 65536 := by rw [← hz]; exact Nat.le_trans (Nat.div_le_self n P) hn
  obtain ⟨N, hN⟩ : ∃ N, N = F.length * z := ⟨_, rfl⟩
  have hNi : (F.length : Int) * (z : Int) = (N : Int) := by rw [hN]; push_cast; rfl
  have hNb : N ≤ 8388608 := by rw [hN]; exact Nat.le_trans (Nat.mul_le_mul hF hzb) (by decide)
  have HT0 : Hid (stEsiTo z (F.take 0) = []) := lhd rfl
  have HTS : Hid (∀ j, j < F.length → stEsiTo z (F.take (j + 1)) = stEsiTo z (F.take j) ++ (List.range z).map fun k => F.getD j 0 * z + k) := lhd (zGs z F)
  have HTE : Hid (stEsiTo z (F.take F.length) = stEsiTo z F) := lhd (by rw [List.take_length])
  have HTL : Hid (∀ j, j ≤ F.length → (stEsiTo z (F.take j)).length = j * z) := lhd fun j hj => by rw [zA6, List.length_take, Nat.min_eq_left hj]
  have HFB : Hid (∀ j, j < F.length → F.getD j 0 < 128) := lhd fun j hj => hFb _ (by rw [List.getD_eq_getElem?_getD, List.getElem?_eq_getElem hj]; exact List.getElem_mem hj)
  have HJZ : Hid (∀ j, j ≤ 128 → j * z ≤ 8388608) := lhd fun j hj => Nat.le_trans (Nat.mul_le_mul hj hzb) (by decide)
  clear hFb hz hy hPk hN
  go_enter Tryz.func147, Tryz.ntmps147
  go_wp2_with fail
  with_reducible refine (HC.out w).mono ?_
  rintro e w1 ⟨hb1, v1, rfl, ho1⟩
  have HB1 := lhd hb1
  have HO1 := lhd ho1
  obtain ⟨a1, c1, hv1, -, hg1⟩ := zAe ho1
  subst hv1
  have HG1 := lhd hg1
  clear ho1 hb1 hg1
  go_wp2_with (at_make; refine wpList_make_own _ rfl _ _ 32 rfl w1.heap.size 3 i0 (.int .i64 0) 1 Tryz.underlying32 hi hz0 hz1 .i64 .i64 _ N rfl rfl rfl (by rw [hz2]; omega) (by unfold maxLen; omega) (Nat.le_refl _) ?_; intro w2 hown0 hgrow0; have HBE2 := lhd ((Below.refl w1.heap.size w1).grown hgrow0 (Nat.le_refl _) (fun k hk => by cases hk)); have HOS := lhd hown0; clear hown0 hgrow0)
  go_loopw [14, 54] (fun v i wr => ∃ j : Nat, j ≤ F.length ∧ i = .int .i64 (j : Int) ∧ wr.ownsRow w1.heap.size 3 1 v (stEsiTo z (F.take j)).length ((stEsiTo z (F.take j)).map cnkV) ∧ Below w1.heap.size w1 wr) (fun _ i _ => F.length - (intOf i).toNat)
  case atStart => exact ⟨0, Nat.zero_le _, rfl, by rw [HT0.out]; exact HOS.out, HBE2.out⟩
  case round =>
    obtain ⟨j, hj, rfl, hown, hbel⟩ := hrel
    have HB := lhd hbel
    have HOW := lhd hown
    by_cases hlt : j < F.length
    · have d1 : decide ((j : Int) < (F.length : Int)) = true := decide_eq_true (by omega)
      obtain ⟨g1, rfl⟩ := HG1.out (by omega)
      have HX1 : Hid (∀ V, Below w1.heap.size w1 V → V.cell? ⟨g1, j, none⟩ = some (.int .i64 ((F.getD j 0 : Nat) : Int))) := lhd fun V hV => by
        have h := (zAh HO1.out hV).cellAt j (by omega)
        rw [h]
        simp [cnkV, List.getD_eq_getElem?_getD, hlt]
      have hst := HTS.out j hlt
      have hql := HTL.out j hj
      have hqb := HJZ.out j (by omega)
      have hxb := HFB.out j hlt
      have hyb := HJZ.out (F.getD j 0) (by omega)
      clear hown hbel
      generalize F.getD j 0 = x at *
      generalize hE : stEsiTo z (F.take j) = E0 at *
      rw [hql] at HOW
      obtain ⟨q, hq⟩ : ∃ q, q = j * z := ⟨_, rfl⟩
      rw [← hq] at HOW hqb hql
      obtain ⟨y, hy⟩ : ∃ y, y = x * z := ⟨_, rfl⟩
      rw [← hy] at hyb
      simp only [← hy] at hst
      have hxz : (x : Int) * (z : Int) = (y : Int) := by rw [hy]; push_cast; rfl
      have HST := lhd hst
      have HQL := lhd hql
      clear hq hy hst hql hE
      have hx0 := HX1.out wr HB.out
      obtain ⟨wo, hwo⟩ : ∃ wo, wo = wr := ⟨_, rfl⟩
      subst hwo
      go_wp2_with fail
      go_loopw [14, 59] (fun v i wr' => ∃ t : Nat, t ≤ z ∧ i = .int .i64 (t : Int) ∧ wr'.ownsRow w1.heap.size 3 1 v (q + t) ((E0 ++ (List.range t).map fun k => y + k).map cnkV) ∧ Below w1.heap.size w1 wr') (fun _ i _ => z - (intOf i).toNat)
      case atStart => exact ⟨0, Nat.zero_le _, rfl, by simpa using HOW.out, HB.out⟩
      case round =>
        obtain ⟨t, ht, rfl, hown, hbel⟩ := hrel
        have HB2 := lhd hbel
        have HOW2 := lhd hown
        clear hown hbel
        by_cases htl : t < z
        · have d2 : decide ((t : Int) < (z : Int)) = true := decide_eq_true (by omega)
          have hyw : IntKind.i64.wrap (y : Int) = (y : Int) := IntWalk.i64_in _ (by omega)
          have hyt : IntKind.i64.wrap ((y : Int) + (t : Int)) = (y : Int) + (t : Int) := IntWalk.i64_in _ (by omega)
          have HO4 := lhd (HOW2.out.alloc (.cells #[.int .i64 ((y : Int) + (t : Int))] 3))
          have HSZ := lhd HB2.out.size
          have HSN : Hid ((E0 ++ (List.range (t + 1)).map fun k => y + k).map cnkV = (E0 ++ (List.range t).map fun k => y + k).map cnkV ++ [.int .i64 ((y : Int) + (t : Int))]) := lhd (by
            rw [List.range_succ]
            simp [cnkV])
          go_wp2_with (at_builtin; refine wpList_append_own _ rfl (.tmp 62) (.tmp 68) 32 rfl w1.heap.size 3 i0 (.int .i64 0) 1 8 Tryz.underlying32 hi hz0 hz1 hz2 rfl (by decide) u14 (q + t) ((E0 ++ (List.range t).map fun k => y + k).map cnkV) rfl HO4.out ⟨wr.heap.size, 0, none⟩ 1 1 [.int .i64 ((y : Int) + (t : Int))] rfl rfl (cell_one_new _ _ _) (fun x hx => by simp at hx; subst hx; rfl) (by unfold maxLen; omega) (by omega) (by have := HSZ.out; simp; omega) ?_; intro v5 w5 hown1 hgrow1 _; have HB5 := lhd ((HB2.out.alloc HSZ.out _).grown hgrow1 (by have := HSZ.out; simp; omega) (fun k hk => (HO4.out.lt k hk).1)); have HO5 := lhd hown1; clear hown1 hgrow1)
          go_roundw
          case rel => exact ⟨t + 1, by omega, by go_num, by rw [HSN.out]; exact HO5.out, HB5.out⟩
          case measure => simp [intOf]; omega
        · obtain rfl : t = z := by omega
          have d2 : decide ((t : Int) < (t : Int)) = false := decide_eq_false (by omega)
          have HLN : Hid ((stEsiTo t (F.take (j + 1))).length = q + t) := lhd (by rw [HST.out, List.length_append, HQL.out, List.length_map, List.length_range])
          go_wp2_with fail
          go_roundw
          case rel => exact ⟨j + 1, by omega, by go_num, by rw [HLN.out, HST.out]; exact HOW2.out, HB2.out⟩
          case measure => simp [intOf]; omega
    · obtain rfl : j = F.length := by omega
      have d1 : decide ((F.length : Int) < (F.length : Int)) = false := decide_eq_false (by omega)
      rw [HTE.out] at HOW
      clear hown hbel
      go_wp2
      go_ret2
      exact ⟨HB1.out.trans (HB.out.mono HB1.out.size), _, rfl, zAd HOW.out HB1.out.size⟩
theorem zNe : StEsisC := fun w g n l s hg hn hl hs => by
  cases hm : mayB g l with
  | false =>
    have hE : stEsiN g n l = 1 := by unfold stEsiN; rw [if_neg (by rw [hm]; simp)]
    rw [hE]
    refine (zIy g n l s hg hn hl hs hm).mono ?_
    rintro e w' ⟨h1, h2⟩
    exact ⟨h1, .inl ⟨by decide, h2⟩⟩
  | true =>
    obtain ⟨p1, p2, p3, p4⟩ := zJq hm
    obtain ⟨k, rfl⟩ := Int.eq_ofNat_of_zero_le p3
    obtain ⟨G, rfl⟩ := Int.eq_ofNat_of_zero_le (show 0 ≤ g by omega)
    obtain ⟨m, hmd⟩ : ∃ m, G = m + k + 1 := ⟨G - k - 1, by omega⟩
    have e1 : ((G : Int) - 1 - (k : Int)).toNat = m := by omega
    have e2 : ((k : Int)).toNat = k := by omega
    have e3 : ((G : Int) - 1).toNat = m + k := by omega
    have hc : ∀ V : World, Calls Tryz.prog 177 #[.int .i64 (G : Int), .int .i64 (k : Int), .int .u32 (s : Int)] V fun e w' => Below V.heap.size V w' ∧ ∃ v', e = .returned (.tuple #[v', .nilIface]) ∧ w'.ownsRow V.heap.size 3 1 v' (layL m s k).length ((layL m s k).map cnkV) := fun V => by
      refine (zJ5 V G k s hg hl hs).mono ?_
      rintro e w' ⟨h1, ⟨h2, -⟩ | ⟨-, h2⟩⟩
      · rw [hm] at h2; cases h2
      · rw [e1, e2] at h2
        exact ⟨h1, h2⟩
    by_cases hr : 1 ≤ n ∧ n ≤ 65536
    · obtain ⟨x, rfl⟩ := Int.eq_ofNat_of_zero_le (show 0 ≤ n by omega)
      have hE : stEsiN (G : Int) (x : Int) (k : Int) = if x % 2 ^ (m + k) = 0 then 0 else 2 := by
        unfold stEsiN
        rw [if_pos ⟨hm, hr.1, hr.2⟩, e3]
        rfl
      rw [hE, e1, e2, e3, show ((x : Int)).toNat = x by omega]
      by_cases hy : x % 2 ^ (m + k) = 0
      · rw [if_pos hy]
        refine (zID (w := w) G k s x (m + k) (2 ^ (m + k)) (x / 2 ^ (m + k)) (layL m s k) (by omega) (by omega) (by omega) rfl (by omega) (by omega) hy rfl (by rw [zDb]; have := zEi (l := k) (by omega); omega) (fun c hc => by have h1 := zIG m s k c hc; have h2 : 2 ^ (m + k) ≤ 2 ^ 7 := zAl (by omega); omega) hc).mono ?_
        rintro e w' ⟨h1, h2⟩
        exact ⟨h1, .inr ⟨rfl, h2⟩⟩
      · rw [if_neg hy]
        refine (zFS (w := w) G k s x (m + k) (2 ^ (m + k)) _ (layL m s k) (by omega) (by omega) (by omega) rfl (by omega) (by omega) rfl hy hc).mono ?_
        rintro e w' ⟨h1, h2⟩
        exact ⟨h1, .inl ⟨by decide, h2⟩⟩
    · have hE : stEsiN (G : Int) n (k : Int) = 1 := by unfold stEsiN; rw [if_neg (fun h => hr h.2)]
      rw [hE]
      refine (zIe (w := w) G k s n (by omega) (by omega) hn (layL m s k) (by omega) hc).mono ?_
      rintro e w' ⟨h1, h2⟩
      exact ⟨h1, .inl ⟨by decide, h2⟩⟩
end

section
open Go.RowKit Go.Extern.Stop Go.Stop Go.Extern
theorem sdRep : SnRep SdAt where
  le := fun h => ⟨Nat.le_of_lt (Nat.lt_of_le_of_lt h.2.2.1 h.2.2.2.1), h.2.2.2.2.1⟩
  ok := fun h => ⟨h.1, h.2.1⟩
  far := fun h hs hz => h.far hs hz
  check := fun w c size hc hs => zF1 zG6 zKa w c size hc hs
  new := fun w c v P hc hv ho hD hT => zJM zG6 zKa w c v P hc hv ho hD hT
  tick := fun w lo hi g S t h hD _ => zHr zNj zNe zNA zKF zMh w lo hi g S t h hD
  skip := fun w lo hi g S t n h hn => zHn w lo hi g S t n h hn
  now := fun w lo hi g S t h => by
    obtain ⟨L, -, hx⟩ := h.opens
    refine (zJ2 hx).mono ?_
    rintro e w' ⟨rfl, rfl⟩
    exact ⟨rfl, Below.refl _ _⟩
  plan := fun w lo hi g S t h => by
    obtain ⟨L, -, hx⟩ := h.opens
    exact zHm hx
  tickNil := fun w => zHk
  skipNil := fun w n _ => zHJ n
  nowNil := fun w => zNQ.mono (by
    rintro e w' ⟨rfl, rfl⟩
    exact ⟨rfl, Below.refl _ _⟩)
  planNil := fun w => zHe
end

section
open Go.RowKit Go.Extern.Stop Go.Stop Go.Extern
def plainC : Cfg := ⟨1, 2, 4, 1, 2, 4, 1, 8⟩
theorem zL9 : CfgI plainC := ⟨⟨by decide, by decide⟩, ⟨by decide, by decide⟩, ⟨by decide, by decide⟩, ⟨by decide, by decide⟩, ⟨by decide, by decide⟩, ⟨by decide, by decide⟩, ⟨by decide, by decide⟩, ⟨by decide, by decide⟩⟩
theorem zGy : snN plainC (([97, 98] : List Nat).length : Nat) = 0 := by decide +kernel
theorem zNp {w : World} : Calls Tryz.prog 28 #[] w fun e w' => e = .returned (cfgV plainC) ∧ Below w.heap.size w w' := by
  have HB := lhd ((Below.refl w.heap.size w).alloc (Nat.le_refl _) (.cells (cfgC plainC) 23))
  have HX : Hid ((w.alloc (.cells (cfgC plainC) 23)).heap[w.heap.size]? = some (.cells (cfgC plainC) 23 (0, 0))) := lhd (heap_alloc_new _ _)
  go_enter Tryz.func28, Tryz.ntmps28
  go_wp2_with (first
    | ((with_reducible show wpList _ _ _ (⟨some 1, _, _, _, _, _⟩ :: _) _ _); refine zAk rfl 23 _ rfl (cfgC plainC) (by kernel_rfl) ?_)
    | ((with_reducible show wpList _ _ _ (⟨none, _, _, _, _, _⟩ :: _) _ _); refine zAf _ rfl 23 (.tmp 0) (.tmp 1) rfl rfl rfl (by kernel_rfl) (by rfl) (by kernel_rfl) ?_))
  refine bodyPost_ret (zA2 rfl _ _ w.heap.size 23 _ (0, 0) _ rfl HX.out Tryz.underlying23 rfl (by kernel_rfl)) rfl ?_
  exact ⟨rfl, HB.out⟩
theorem zGb (s : Snd) (t k : Nat) (l : List (Nat × Nat)) : (datL s t k l).map (fun p => p.layer.toNat) = List.replicate l.length k := by
  apply List.ext_getElem (by simp [datL])
  intro i h1 h2
  simp [datL, sdP]
theorem zDl (s : Snd) (t : Nat) : ∀ K, (flatP s t K).map (fun p => p.layer.toNat) = (List.range K).flatMap fun k => List.replicate (manyS s t k) k
  | 0 => rfl
  | K + 1 => by
    rw [zBA, List.map_append, zDl s t K, List.range_succ, List.flatMap_append]
    unfold layP
    rw [zGb, zCU]
    simp [manyS]
theorem zFI (s : Snd) (t : Nat) : (tickL s t).map Prod.fst = (if t % s.every = 0 then [0] else []) ++ (List.range s.g).flatMap fun k => List.replicate (manyS s t k) k := by
  unfold tickL
  rw [List.map_map]
  show (annL s t ++ flatP s t s.g).map (fun p => p.layer.toNat) = _
  rw [List.map_append, zDl]
  congr 1
  unfold annL
  split <;> rfl
theorem zHj {S : Snd} (h : SndNum plainC (([97, 98] : List Nat).length : Nat) S) (ho : SndOk S) : (tickL S 0).map Prod.fst = [0, 0, 0, 1, 1] := by
  obtain ⟨ses, g, n, b, k, base, burst, every, size, blocks, long, short, sym⟩ := S
  obtain ⟨h1, h2, h3, h4, h5, h6, h7, h8, h9⟩ := h
  obtain ⟨-, -, -, -, p1, p2, p3⟩ := ho.plan
  simp only [plainC] at h1 h2 h3 h4 h5 h6 h7 h8 h9
  obtain rfl : ses = 1 := by omega
  obtain rfl : g = 2 := by omega
  obtain rfl : n = 4 := by omega
  obtain rfl : b = 1 := by omega
  obtain rfl : k = 2 := by omega
  obtain rfl : base = 4 := by omega
  obtain rfl : burst = 1 := by omega
  obtain rfl : every = 8 := by omega
  obtain rfl : size = 2 := by simp at h9; omega
  have e1 : symT 2 1 = 2 := by decide
  have e2 : upN 2 2 = 1 := by decide
  simp only at p1 p2 p3
  rw [e1, e2] at p1
  rw [e1, p1] at p2 p3
  subst p1
  obtain rfl : long = 0 := p2
  obtain rfl : short = 2 := p3
  rw [zFI]
  simp [manyS, rowS, rowZ, burstB, rateN, stepsZ, cntZ, List.range_succ, List.replicate]
theorem zMX {At : SndAt} (hA : SnRep At) {w : World} (hD : DgTab w) (hT : Tab w) : Calls Tryz.prog 12 #[] w fun e w' => e = .returned (.bool true) ∧ Below w.heap.size w w' := by
  have HN : Hid (∀ (V : World) (v : Value), ListAt byteV V v [97, 98] → Below w.heap.size w V → Calls Tryz.prog 14 #[cfgV plainC, v] V fun e w' => Below V.heap.size V w' ∧ ∃ g S, e = .returned (.tuple #[ptrAt g, .nilIface]) ∧ (tickL S 0).map Prod.fst = [0, 0, 0, 1, 1] ∧ At w' V.heap.size w'.heap.size g S 0) :=
    lhd fun V v hv hb => (hA.new V plainC v [97, 98] zL9 hv (by intro x hx; simp at hx; omega) (PairsAt.mono hD hb) (hT.mono hb)).mono (by
      rintro e w' ⟨h1, ⟨h2, -⟩ | ⟨-, g, S, rfl, hS, hAt⟩⟩
      · exact absurd zGy h2
      · exact ⟨h1, g, S, rfl, zHj hS.num hS.ok, hAt⟩)
  have HD := lhd hD
  have HT := lhd hT
  have HL : Hid (∀ V : World, ListAt byteV (V.alloc (.cells #[.int .u8 97, .int .u8 98] 5 (2, 3))) (.slice (some ⟨V.heap.size, 0, none⟩) 2 2) [97, 98]) := lhd fun V => zHb V [97, 98] (by decide)
  have kc : ∀ V : World, (convert 31 31 (.slice (some ⟨V.heap.size, 0, none⟩) 2 2)).run Tryz.prog (V.alloc (.cells #[.int .u8 97, .int .u8 98] 5)) = .ok (.slice (some ⟨V.heap.size, 0, none⟩) 2 2) (V.alloc (.cells #[.int .u8 97, .int .u8 98] 5 (2, 3))) := fun V => zGL V #[.int .u8 97, .int .u8 98] 2 2
  clear hD hT
  go_enter Tryz.func12, Tryz.ntmps12
  go_wp2_with fail
  refine zNp.mono ?_
  rintro e w1 ⟨rfl, hb1⟩
  have HB1 := lhd (hb1.alloc hb1.size (.cells #[.int .u8 97, .int .u8 98] 5 (2, 3)))
  clear hb1
  go_wp2_with fail
  with_reducible refine (HN.out _ _ (HL.out w1) HB1.out).mono ?_
  rintro e w2 ⟨hb2, g, S, rfl, htl, hAt⟩
  have HB2 := lhd (HB1.out.trans (hb2.mono HB1.out.size))
  have HA2 := lhd hAt
  have HTI := lhd (hA.tick w2 _ _ g S 0 hAt (PairsAt.mono HD.out HB2.out) (HT.out.mono HB2.out))
  have HZ := lhd HB1.out.size
  have HTL := lhd htl
  clear hb2 hAt htl
  unfold ptrAt at *
  go_wp2_with fail
  with_reducible refine HTI.out.mono ?_
  rintro e w3 ⟨hf, ⟨h, -⟩ | ⟨-, v3, rfl, hl, hAt⟩⟩
  · omega
  have HB3 := lhd (HB2.out.trans (hf.1.mono HZ.out))
  have HNW := lhd (hA.now w3 _ _ g S 1 hAt)
  unfold ptrAt at HNW
  obtain ⟨a3, c3, hv3, hc3, -, hcells⟩ := (DgsNew.at hl).opens
  have hlen : (tickL S 0).length = 5 := by rw [← List.length_map (f := Prod.fst), HTL.out]; rfl
  have hget : ∀ j x, [0, 0, 0, 1, 1][j]? = some x → ∃ y, (tickL S 0)[j]? = some (x, y) := fun j x hj => by
    rw [← HTL.out, List.getElem?_map] at hj
    cases h : (tickL S 0)[j]? with
    | none => rw [h] at hj; cases hj
    | some z => rw [h] at hj; exact ⟨z.2, by rw [← Option.some.inj hj]; exact h⟩
  rw [hlen] at hv3 hc3 hcells
  obtain ⟨b3, o3, rfl, hcc⟩ := hcells (by decide)
  subst hv3
  have hk0 : w3.cell? ⟨b3, o3, none⟩ = some (.int .i64 0) := by
    obtain ⟨y, hy⟩ := hget 0 0 rfl
    obtain ⟨cs, ⟨D, rfl, -⟩, hcs⟩ := hcc 0 _ hy
    exact hcs 0 _ rfl
  have hk4 : w3.cell? ⟨b3, o3 + 8, none⟩ = some (.int .i64 1) := by
    obtain ⟨y, hy⟩ := hget 4 1 rfl
    obtain ⟨cs, ⟨D, rfl, -⟩, hcs⟩ := hcc 4 _ hy
    exact hcs 0 _ rfl
  clear hf hl hAt hcells hcc hget hlen
  go_wp2_with fail
  with_reducible refine HNW.out.mono ?_
  rintro e w4 ⟨rfl, hb4⟩
  have HB4 := lhd (HB3.out.trans (hb4.mono HB3.out.size))
  clear hb4
  go_wp2
  go_ret
  exact ⟨rfl, HB4.out⟩
end
end Go.Proofs.YtkfimdpcadbcpaaGreatDoor
