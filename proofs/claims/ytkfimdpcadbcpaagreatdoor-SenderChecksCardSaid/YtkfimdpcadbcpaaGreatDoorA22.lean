import Derived.Test.YtkfimdpcadbcpaaGreatDoorA20
import Derived.Test.YtkfimdpcadbcpaaGreatDoorA21
import Derived.Test.YtkfimdpcadbcpaaGreatDoorA10
import Derived.Deep.RegionHeld3
import Derived.Test.YtkfimdpcadbcpaaGreatDoorA19
import Derived.Test.YtkfimdpcadbcpaaGreatDoorA01
set_option linter.unusedSimpArgs false
set_option linter.unusedVariables false
set_option maxRecDepth 1000000
set_option maxHeartbeats 8000000
namespace Go.Proofs.YtkfimdpcadbcpaaGreatDoor
section
open Go.RowKit Go.Extern.Stop Go.Stop Go.Extern
def nameSMiddle : ByteArray := ⟨#[115, 121, 115, 116, 101, 109, 46, 77, 105, 100, 100, 108, 101]⟩
theorem zJU {k s h l p seed : Nat} (H : OfP k s h l p) (hk1 : 1 ≤ k) (hk2 : k ≤ 128) (hs : seed < 65536) : checkR k s h l p seed [] = 0 := by
  rw [zC6 (by
    rintro (hn | hn | hn)
    · exact hn ⟨k, s, h, l, p, rfl, rfl, rfl, rfl, rfl, hk1, hk2, H⟩
    · omega
    · omega) (fun j hj => by simp at hj), if_neg (by simp)]
def MidSays (k s h l p seed size : Nat) (M : List (List Nat)) (w : World) (e : Ending) (w' : World) : Prop :=
  (formedB M k size = true ∧ rankA k s h l p seed (List.range k) = l ∧ ∃ v V, e = .returned (.tuple #[v, .nilIface]) ∧ MatFresh byteV 5 w.heap.size 31 w' v V ∧ Tells l size (sysE k s h l p seed size (fun t => M.getD t []) k) V ∧ Cons l (sysE k s h l p seed size (fun t => M.getD t []) k) ∧ Below w.heap.size w w') ∨
  (formedB M k size = true ∧ rankA k s h l p seed (List.range k) ≠ l ∧ NoSays 4 nameSMiddle nilS w e w') ∨ (formedB M k size = false ∧ NoSays 2 nameSMiddle nilS w e w')
theorem zJc {w : World} (k s h l p seed size : Nat) (v : Value) (M : List (List Nat)) (H : OfP k s h l p) (hk1 : 1 ≤ k) (hk2 : k ≤ 128) (hs : seed < 65536) (hz1 : 1 ≤ size) (hz2 : size ≤ 64) (hv : MatAt byteV w v M) (ho : ∀ r ∈ M, Octets r) (hT : DgTab w) (hB : Tab w) :
    Calls Tryz.prog 91 #[parV k s h l p, .int .i64 (seed : Int), v, .int .i64 (size : Int)] w (MidSays k s h l p seed size M w) := by
  have HT := lhd hT
  have HBT := lhd hB
  have HOF := lhd H
  obtain ⟨w0, hw0, hb0, hbx⟩ := zAi w k s h l p
  have HW0 := lhd hw0
  have HB0 := lhd hb0
  have HBX := lhd hbx
  obtain ⟨c0, c1, c2, c3, c4⟩ := hbx.cells
  have HR : Hid (Calls Tryz.prog 123 #[.agg #[.int .i64 (k : Int), .int .i64 (s : Int), .int .i64 (h : Int), .int .i64 (l : Int), .int .i64 (p : Int)], .int .i64 (seed : Int), .slice none 0 0] w0 fun e w' => e = .returned .nilIface ∧ Below w0.heap.size w0 w') := lhd (by
    refine (zIc k s h l p seed _ [] (by omega) (ListAt.nil _ _) (PairsAt.mono hT hb0)).mono ?_
    rintro e w' ⟨E, rfl, h1, h2⟩
    exact ⟨by rw [h1.nil (zJU H hk1 hk2 hs)], h2⟩)
  have HBG : Hid (∀ V, Tab V → Calls Tryz.prog 120 #[.agg #[.int .i64 (k : Int), .int .i64 (s : Int), .int .i64 (h : Int), .int .i64 (l : Int), .int .i64 (p : Int)], .int .i64 (size : Int)] V fun e w' => ∃ b kb, e = .returned (.tuple #[sysP b, .nilIface]) ∧ Sys w' b l size (sysF k s h l size) (s + h) false kb ∧ V.heap.size ≤ b ∧ V.heap.size ≤ kb ∧ Below V.heap.size V w') := lhd fun V hV => zG2 k s h l p size H hk1 hk2 hz1 hz2 hV
  have HAD : Hid (∀ (V : World) (b : Nat) (K : List Vec) (r kb t : Nat) (x : Value) (y : List Nat), Sys V b l size K r false kb → t < k → ListAt byteV V x y → y.length = size → Octets y → DgTab V → Tab V → Calls Tryz.prog 122 #[sysP b, .agg #[.int .i64 (k : Int), .int .i64 (s : Int), .int .i64 (h : Int), .int .i64 (l : Int), .int .i64 (p : Int)], .int .i64 (seed : Int), .int .i64 (t : Int), x] V fun e w' => e = .returned (.tuple #[.int .i64 (kindV l K (eqL l (rowE l p seed t) y) : Nat), .nilIface]) ∧ Touch b kb V w' ∧
      Sys w' b l size (addV l K (eqL l (rowE l p seed t) y)) (addR l K (eqL l (rowE l p seed t) y) r) (decide (kindV l K (eqL l (rowE l p seed t) y) = 3)) kb) := lhd fun V b K r kb t x y h1 h2 h3 h4 h5 h6 h7 => zLU b K r kb k s h l p seed t size x y h1 H hk1 hk2 hs (by omega) h3 h4 h5 h6 h7
  have HM := lhd hv
  have HO := lhd ho
  have hml := hv.len
  obtain ⟨av, cv, rfl, hcv, -, hcell⟩ := hv.opens
  have HC := lhd hcell
  have HK := lhd (show k ≤ 128 from hk2)
  clear hw0 hb0 hbx H hT hB hk1 hk2 hs hv ho hz1 hz2 hcell
  unfold parV parC
  go_enter Tryz.func91, Tryz.ntmps91
  go_upto_region 1 with fail
  rw [← HW0.out]
  go_wp2_with fail
  refine HR.out.mono ?_
  rintro e w1 ⟨rfl, hb1⟩
  have HB1 := lhd (HB0.out.trans (hb1.mono HB0.out.size))
  have HX1 := lhd (HBX.out.mono hb1)
  clear hb1 c0 c1 c2 c3 c4
  obtain ⟨c0, c1, c2, c3, c4⟩ := HX1.out.cells
  go_wp2_with fail
  refine (HBG.out _ (HBT.out.mono HB1.out)).mono ?_
  rintro e w2 ⟨b, kb, rfl, hsys, hgb, hgk, hb2⟩
  have HS2 := lhd hsys
  have HGB := lhd (show w1.heap.size ≤ b ∧ w1.heap.size ≤ kb from ⟨hgb, hgk⟩)
  have HB12 := lhd hb2
  have HB2 := lhd (HB1.out.trans (hb2.mono HB1.out.size))
  have HFM := lhd (zFK _ M k size (HM.out.mono HB2.out))
  clear c0 c1 c2 c3 c4
  obtain ⟨c0, c1, c2, c3, c4⟩ := (HX1.out.mono hb2).cells
  clear hsys hgb hgk hb2
  go_wp2_with fail
  refine HFM.out.mono ?_
  rintro e w3 ⟨rfl, rfl⟩
  cases hfb : formedB M k size with
  | false =>
    have HFB := lhd hfb
    clear hfb c0 c1 c2 c3 c4
    go_wp2_with fail
    refine (zAH nameSMiddle 2 (by decide) _).mono ?_
    rintro e w3 ⟨E, rfl, hea, hb3⟩
    have HEA := lhd hea
    have HB3 := lhd (HB2.out.trans (hb3.mono HB2.out.size))
    obtain ⟨u, x, rfl⟩ := hea.some (by decide)
    clear hea hb3
    go_wp2
    go_ret2
    exact .inr (.inr ⟨HFB.out, _, rfl, HEA.out, HB3.out⟩)
  | true =>
    obtain ⟨hf1, hf2⟩ := zFX hfb
    have hlk : M.length = k := by omega
    have HFB := lhd hfb
    have HLK := lhd hlk
    have HLR : Hid (∀ t, t < k → (M.getD t []).length = size ∧ Octets (M.getD t [])) := lhd fun t ht => by
      have hm : M.getD t [] ∈ M := zAt (by omega)
      exact ⟨by have := hf2 _ hm; omega, HO.out _ hm⟩
    have HR0 := lhd (zL8 k s h l p seed)
    have HS0 : Hid (Sys w2 b l size (sysE k s h l p seed size (fun t => M.getD t []) 0) (s + h + 0) false kb) := lhd (by rw [zC2]; exact HS2.out)
    clear hfb hf1 hf2 hlk c0 c1 c2 c3 c4
    go_wp2
    go_loopw [44] (fun i wr => ∃ j : Nat, j ≤ k ∧ i = .int .i64 j ∧ Sys wr b l size (sysE k s h l p seed size (fun t => M.getD t []) j) (s + h + j) false kb ∧ rankA k s h l p seed (List.range j) = s + h + j ∧ Below w1.heap.size w1 wr) (fun i _ => k - (intOf i).toNat)
    case atStart => exact ⟨0, Nat.zero_le _, rfl, HS0.out, HR0.out, HB12.out⟩
    case round =>
      obtain ⟨j, hj, rfl, hsx, hrq, hbel⟩ := hrel
      clear HS0 HR0
      have HBL := lhd hbel
      have HBW := lhd (HB1.out.trans (hbel.mono HB1.out.size))
      obtain ⟨c0, c1, c2, c3, c4⟩ := (HX1.out.mono hbel).cells
      have hlk := HLK.out
      by_cases hlt : j < k
      · obtain ⟨bv, ov, rfl, hcc⟩ := HC.out (by omega)
        obtain ⟨x, hx, hlx⟩ := hcc j (by omega)
        have hx' : wr.cell? ⟨bv, ov + j, none⟩ = some x := (HBW.out.cell (p := ⟨bv, ov + j, none⟩) (World.block_lt_of_cell? w _ hx)).trans hx
        have HFI := lhd (zFn (size := size) (src := fun t => M.getD t []) (y := M.getD j []) HOF.out.2.2.1 hrq)
        have HAE := lhd (HAD.out wr b _ _ kb j x (M.getD j []) hsx hlt (hlx.mono HBW.out) (HLR.out j hlt).1 (HLR.out j hlt).2 (PairsAt.mono HT.out HBW.out) (HBT.out.mono HBW.out))
        have HES := lhd (zFz k s h l p seed size (fun t => M.getD t []) j)
        obtain ⟨kd, hkd⟩ : ∃ kd, kindV l (sysE k s h l p seed size (fun t => M.getD t []) j) (eqL l (rowE l p seed j) (M.getD j [])) = kd := ⟨_, rfl⟩
        obtain ⟨ax, cx, hxe, -, -, -⟩ := hlx
        subst hxe
        have hjb : ((j : Int) < (M.length : Int)) := by omega
        by_cases h1 : kd = 1
        · subst h1
          have HAF : Hid (Calls Tryz.prog 122 #[sysP b, .agg #[.int .i64 (k : Int), .int .i64 (s : Int), .int .i64 (h : Int), .int .i64 (l : Int), .int .i64 (p : Int)], .int .i64 (seed : Int), .int .i64 (j : Int), .slice ax (M.getD j []).length cx] wr fun e w' => e = .returned (.tuple #[.int .i64 1, .nilIface]) ∧ Touch b kb wr w' ∧ Sys w' b l size (sysE k s h l p seed size (fun t => M.getD t []) (j + 1)) (s + h + (j + 1)) false kb) := lhd (by
            refine HAE.out.mono ?_
            rintro e w' ⟨rfl, h1, h2⟩
            unfold addV addR at h2
            rw [hkd] at h2 ⊢
            refine ⟨rfl, h1, ?_⟩
            rw [HES.out]
            exact h2)
          have HRQ := lhd (HFI.out.1 hkd)
          clear HAE HFI HES hkd hsx hrq hbel hx hcc hlk
          generalize (M.getD j []).length = rl at *
          go_wp2_with fail
          refine HAF.out.mono ?_
          rintro e w5 ⟨rfl, ht5, hs5⟩
          have HS5 := lhd hs5
          have HB5 := lhd (HBL.out.trans (ht5.below HGB.out.1 HGB.out.2 HBL.out.size))
          clear ht5 hs5 c0 c1 c2 c3 c4
          go_wp2
          go_roundw
          case rel => exact ⟨j + 1, by omega, by go_num, HS5.out, HRQ.out, HB5.out⟩
          case measure => simp [intOf]; omega
        · have HAF : Hid (Calls Tryz.prog 122 #[sysP b, .agg #[.int .i64 (k : Int), .int .i64 (s : Int), .int .i64 (h : Int), .int .i64 (l : Int), .int .i64 (p : Int)], .int .i64 (seed : Int), .int .i64 (j : Int), .slice ax (M.getD j []).length cx] wr fun e w' => e = .returned (.tuple #[.int .i64 (kd : Int), .nilIface]) ∧ Touch b kb wr w') := lhd (by
            refine HAE.out.mono ?_
            rintro e w' ⟨rfl, h1, h2⟩
            rw [hkd]
            exact ⟨rfl, h1⟩)
          have HNR : Hid (rankA k s h l p seed (List.range k) ≠ l) := lhd (by
            have h2 := HFI.out.2 (by rw [hkd]; exact h1) k hlt
            have h4 := HOF.out.2.2.1
            omega)
          have hkb1 : ((kd : Int) == 1) = false := by rw [beq_eq_false_iff_ne]; omega
          have hkb2 : ((kd : Int) != 1) = true := by rw [bne_iff_ne]; omega
          clear HAE HFI HES hkd hsx hrq hbel hx hcc hlk h1
          generalize (M.getD j []).length = rl at *
          go_wp2_with fail
          refine HAF.out.mono ?_
          rintro e w5 ⟨rfl, ht5⟩
          have HB5 := lhd (HB1.out.trans ((HBL.out.trans (ht5.below HGB.out.1 HGB.out.2 HBL.out.size)).mono HB1.out.size))
          clear ht5 c0 c1 c2 c3 c4
          go_wp2_with fail
          refine (zAH nameSMiddle 4 (by decide) _).mono ?_
          rintro e w6 ⟨E, rfl, hea, hb6⟩
          have HEA := lhd hea
          have HB6 := lhd (HB5.out.trans (hb6.mono HB5.out.size))
          obtain ⟨u, x, rfl⟩ := hea.some (by decide)
          clear hea hb6
          go_wp2
          go_ret2
          exact .inr (.inl ⟨HFB.out, HNR.out, _, rfl, HEA.out, HB6.out⟩)
      · obtain rfl : j = k := by omega
        have hl := HOF.out.2.2.1
        have hsl : s + h + j = l := by omega
        rw [hsl] at hsx hrq
        have HRQ := lhd hrq
        have HCO := lhd hsx.cons
        have HAL := lhd (zHS b l size _ kb hsx)
        have hjb : ¬ ((j : Int) < (M.length : Int)) := by omega
        clear hsx hrq hbel c0 c1 c2 c3 c4 hl hsl
        go_wp2_with fail
        refine HAL.out.mono ?_
        rintro e w5 ⟨v', V, rfl, hm5, hvl, hvv, hb5⟩
        have HM5 := lhd (hm5.below HBW.out.size)
        have HTE := lhd (show Tells l size _ V from ⟨hvl, hvv⟩)
        have HB5 := lhd (HBW.out.trans (hb5.mono HBW.out.size))
        clear hm5 hvl hvv hb5
        go_wp2_with fail
        refine (zCe nameSMiddle w5).mono ?_
        rintro e w6 ⟨rfl, rfl⟩
        go_wp2
        go_ret2
        exact .inl ⟨HFB.out, HRQ.out, _, V, rfl, HM5.out, HTE.out, HCO.out, HB5.out⟩
end

section
open Go.RowKit Go.Extern.Stop Go.Stop Go.Extern
theorem zHp {L : List (List Nat)} {k n : Int} (h1 : (L.length : Int) = k) (h2 : ∀ r ∈ L, (r.length : Int) = n) : formedB L k n = true := by
  unfold formedB
  rw [decide_eq_true h1, Bool.true_and, List.all_eq_true]
  exact fun r hr => decide_eq_true (h2 r hr)
theorem zFU {w : World} (k s h l p seed size : Nat) (v : Value) (M : List (List Nat)) (H : OfP k s h l p) (hk1 : 1 ≤ k) (hk2 : k ≤ 128) (hs : seed < 65536) (hz1 : 1 ≤ size) (hz2 : size ≤ 64) (hv : MatAt byteV w v M) (hML : M.length = k) (ho : ∀ r ∈ M, r.length = size ∧ Octets r) (hT : DgTab w) (hB : Tab w) (hf : rankA k s h l p seed (List.range k) = l) :
    Calls Tryz.prog 91 #[parV k s h l p, .int .i64 (seed : Int), v, .int .i64 (size : Int)] w fun e w' => ∃ v' V, e = .returned (.tuple #[v', .nilIface]) ∧ MatFresh byteV 5 w.heap.size 31 w' v' V ∧ Tells l size (sysE k s h l p seed size (fun t => M.getD t []) k) V ∧ Cons l (sysE k s h l p seed size (fun t => M.getD t []) k) ∧ Below w.heap.size w w' := by
  refine (zJc k s h l p seed size v M H hk1 hk2 hs hz1 hz2 hv (fun r hr => (ho r hr).2) hT hB).mono ?_
  rintro e w' (⟨-, -, h3⟩ | ⟨-, h2, -⟩ | ⟨h1, -⟩)
  · exact h3
  · exact absurd hf h2
  · rw [zHp (by omega) fun r hr => by rw [(ho r hr).1]] at h1
    cases h1
end

section
open Go.RowKit Go.Extern.Stop Go.Stop Go.Extern
def fTo (f : Nat → Option Eqn) (k : Nat) : Nat → Option Eqn := fun c => if c < k then f c else none
structure CloM (W : World) (X kx n size cnt k : Nat) (f : Nat → Option Eqn) (rv sv : Nat → Value) (cl : Bool) : Prop where
  obj : W.heap[X]? = some (.cells (sysCells n size kx cnt cl) 242 (0, 0))
  kobj : ∃ cur, W.heap[kx]? = some (.cells cur 244 (0, 0))
  kcell : ∀ c, c < n → W.cell? ⟨kx, c * 2, none⟩ = some (rv c) ∧ W.cell? ⟨kx, c * 2 + 1, none⟩ = some (sv c)
  place : ∀ c, c < n → PlaceAt W n size c (rv c) (sv c) (fTo f k c)
section
variable {W W' : World} {X kx n size cnt k : Nat} {f : Nat → Option Eqn} {rv sv : Nat → Value} {cl : Bool}
theorem CloM.lt (h : CloM W X kx n size cnt k f rv sv cl) : X < W.heap.size := (Array.getElem?_eq_some_iff.1 h.obj).1
theorem CloM.klt (h : CloM W X kx n size cnt k f rv sv cl) : kx < W.heap.size := by obtain ⟨cur, hc⟩ := h.kobj; exact (Array.getElem?_eq_some_iff.1 hc).1
theorem CloM.ne (h : CloM W X kx n size cnt k f rv sv cl) : X ≠ kx := fun e => by
  obtain ⟨cur, hc⟩ := h.kobj
  have := h.obj
  rw [e, hc] at this
  simp at this
theorem zCq {c : Nat} {r1 s1 : Value} {o : Option Eqn} (hp : PlaceAt W n size c r1 s1 o) (hs : ∀ (g : Nat) (e : TypeId) (cur : Array Value), e = 258 ∨ e = 5 → W.heap[g]? = some (Obj.cells cur e (0, 0)) → W'.heap[g]? = W.heap[g]?) : PlaceAt W' n size c r1 s1 o := by
  cases o with
  | none => exact hp
  | some q => exact ⟨zAp hp.1 fun g cur hg => hs g _ cur (.inl rfl) hg, zAp hp.2.1 fun g cur hg => hs g _ cur (.inr rfl) hg, hp.2.2⟩
theorem CloM.mono (h : CloM W X kx n size cnt k f rv sv cl) (hb : Below W.heap.size W W') : CloM W' X kx n size cnt k f rv sv cl := by
  obtain ⟨cur, hk⟩ := h.kobj
  refine ⟨(hb.block X h.lt).trans h.obj, ⟨cur, (hb.block kx h.klt).trans hk⟩, fun c hc => ?_, fun c hc => zCq (h.place c hc) fun g _ _ _ hg => hb.block g (Array.getElem?_eq_some_iff.1 hg).1⟩
  obtain ⟨h1, h2⟩ := h.kcell c hc
  exact ⟨(World.cell?_of_block (w := W) (a := ⟨kx, c * 2, none⟩) (hb.block kx h.klt)).trans h1, (World.cell?_of_block (w := W) (a := ⟨kx, c * 2 + 1, none⟩) (hb.block kx h.klt)).trans h2⟩
theorem CloM.full (h : CloM W X kx n size (cntF f n) n f rv sv cl) (hn : 1 ≤ n ∧ n ≤ 4096 ∧ 1 ≤ size ∧ size ≤ 64) : SysM W X kx n size f rv sv cl :=
  ⟨h.obj, h.kobj, h.kcell, fun c hc => by
    have := h.place c hc
    unfold fTo at this
    rwa [if_pos hc] at this, hn⟩
theorem CloM.put (h : CloM W X kx n size cnt k f rv sv cl) {r1 s1 : Value} (hk : k < n) (hp : PlaceAt W n size k r1 s1 (f k)) :
    CloM ((W.setCell ⟨kx, k * 2, none⟩ r1).setCell ⟨kx, k * 2 + 1, none⟩ s1) X kx n size cnt (k + 1) f (updV rv k r1) (updV sv k s1) cl := by
  have hne := h.ne
  obtain ⟨cur, hkk⟩ := h.kobj
  have k1 := zAc (j := k * 2) (u := r1) hkk
  have k2 := zAc (j := k * 2 + 1) (u := s1) k1
  have o1 := (Below.heap_setCell W ⟨kx, k * 2, none⟩ r1 X hne).trans h.obj
  have o2 := (Below.heap_setCell (W.setCell ⟨kx, k * 2, none⟩ r1) ⟨kx, k * 2 + 1, none⟩ s1 X hne).trans o1
  have tr : ∀ (g : Nat) (e : TypeId) (cu : Array Value), e = 258 ∨ e = 5 → W.heap[g]? = some (Obj.cells cu e (0, 0)) → ((W.setCell ⟨kx, k * 2, none⟩ r1).setCell ⟨kx, k * 2 + 1, none⟩ s1).heap[g]? = W.heap[g]? := fun g e cu he hg => by
    have hgk : g ≠ kx := fun e1 => by
      rw [e1, hkk] at hg
      rcases he with rfl | rfl <;> simp at hg
    exact (Below.heap_setCell (W.setCell ⟨kx, k * 2, none⟩ r1) ⟨kx, k * 2 + 1, none⟩ s1 g hgk).trans (Below.heap_setCell W ⟨kx, k * 2, none⟩ r1 g hgk)
  refine ⟨o2, ⟨_, k2⟩, fun d hd => ?_, fun d hd => ?_⟩
  · obtain ⟨g1, g2⟩ := h.kcell d hd
    obtain ⟨e1, e2⟩ := h.kcell k hk
    unfold updV
    by_cases e : d = k
    · subst e
      rw [if_pos rfl, if_pos rfl]
      exact ⟨by rw [World.cell?_setCell_other (h := zAw (.inr (by omega)))]; exact World.cell?_setCell_same _ _ _ e1, World.cell?_setCell_same _ _ _ (by rw [World.cell?_setCell_other (h := zAw (.inr (by omega)))]; exact e2)⟩
    · rw [if_neg e, if_neg e]
      refine ⟨?_, ?_⟩ <;> rw [World.cell?_setCell_other (h := zAw (.inr (by omega))), World.cell?_setCell_other (h := zAw (.inr (by omega)))]
      · exact g1
      · exact g2
  · unfold updV
    by_cases e : d = k
    · subst e
      rw [if_pos rfl, if_pos rfl, show fTo f (d + 1) d = f d from if_pos (by omega)]
      exact zCq hp tr
    · rw [if_neg e, if_neg e]
      have : fTo f (k + 1) d = fTo f k d := by
        unfold fTo
        by_cases h1 : d < k
        · rw [if_pos h1, if_pos (by omega)]
        · rw [if_neg h1, if_neg (by omega)]
      rw [this]
      exact zCq (h.place d hd) tr
theorem SysM.lists {b kb : Nat} (h : SysM W b kb n size f rv sv cl) {c : Nat} (hc : c < n) : ∃ r s ar cr ay cy, rv c = .slice ar r.length cr ∧ sv c = .slice ay s.length cy ∧ ListAt wordV W (rv c) r ∧ ListAt byteV W (sv c) s ∧ r.length ≤ 100000 ∧ s.length ≤ 100000 ∧
    ∀ (W' : World) (B : Nat) (v1 v2 : Value), (W'.ownsRow B 258 1 v1 r.length (r.map wordV)) → (W'.ownsRow B 5 1 v2 s.length (s.map byteV)) → (rv c = nilS → v1 = nilS) → (sv c = nilS → v2 = nilS) → PlaceAt W' n size c v1 v2 (f c) := by
  have hp := h.place c hc
  cases hf : f c with
  | none =>
    rw [hf] at hp
    obtain ⟨e1, e2⟩ := hp
    rw [e1, e2]
    exact ⟨[], [], none, 0, none, 0, rfl, rfl, ListAt.nil _ _, ListAt.nil _ _, by simp, by simp, fun W' B v1 v2 _ _ h1 h2 => ⟨h1 rfl, h2 rfl⟩⟩
  | some q =>
    rw [hf] at hp
    obtain ⟨h1, h2, h3, h4⟩ := hp
    have l1 : q.1.length = kOf n := h3.1
    have l2 : q.2.length = size := h3.2.2.2.1
    obtain ⟨ar, cr, e1, -, -⟩ := zAe h1
    obtain ⟨ay, cy, e2, -, -⟩ := zAe h2
    have := zEI h.num.2.1
    have := h.num.2.2.2
    refine ⟨q.1, q.2, ar, cr, ay, cy, by rw [l1]; exact e1, by rw [l2]; exact e2, ListAt.of_owns h1, ListAt.of_owns h2, by omega, by omega, fun W' B v1 v2 k1 k2 _ _ => ?_⟩
    rw [l1] at k1
    rw [l2] at k2
    exact ⟨zAd k1 (Nat.zero_le _), zAd k2 (Nat.zero_le _), h3, h4⟩
end
theorem zGr {w : World} (b kb n size : Nat) (f : Nat → Option Eqn) (rv sv : Nat → Value) (cl : Bool) (hS : SysM w b kb n size f rv sv cl) :
    Calls Tryz.prog 121 #[sysP b] w fun e w' => ∃ X kx rv' sv', e = .returned (sysP X) ∧ SysM w' X kx n size f rv' sv' cl ∧ w.heap.size ≤ X ∧ w.heap.size ≤ kx ∧ Below w.heap.size w w' := by
  obtain ⟨i0, hi, hz0, hz1, hz2⟩ := info_parts zG7
  obtain ⟨hn1, hn2, hs1, hs2⟩ := hS.num
  obtain ⟨hc0, hc1, hc2, hc3, hc4⟩ := hS.cells
  have hlt := hS.lt
  have HS := lhd hS
  clear hS
  go_enter Tryz.func121, Tryz.ntmps121
  go_wp2_with (at_make; refine wpList_make_full _ rfl _ _ 240 rfl w.heap.size 244 i0 (.agg #[.slice none 0 0, .slice none 0 0]) 2 Tryz.underlying240 hi hz0 hz1 .i64 .i64 _ _ n rfl rfl rfl rfl (by rw [hz2]; omega) (by unfold maxLen; omega) (by simp) ?_; intro w2 hown hgrow; have hb1 : Below w.heap.size w w2 := ((Below.refl _ _).alloc (Nat.le_refl _) _).trans ((Below.refl _ _).grown hgrow (by simp) (fun k hk => by cases hk)); have hX : w2.heap[w.heap.size]? = some (.cells (sysCells n size kb (cntF f n) cl) 242 (0, 0)) := (hgrow.block _ (by simp) (by simp)).trans (heap_alloc_new w _); have hx2 := zAa (j := 2) (u := .slice (some ⟨kb, 0, none⟩) n n) hX rfl; have hxf := zAb (j := 2) hX; have HO := lhd hown; have HB1 := lhd hb1; have HX := lhd hX; have hkb2 := hb1.cell (p := ⟨b, 2, none⟩) hlt; clear hown hgrow hb1 hX)
  have hC0 : CloM (w2.setCell ⟨w.heap.size, 2, none⟩ (.slice (some ⟨w.heap.size + 1, 0, none⟩) n n)) w.heap.size (w.heap.size + 1) n size (cntF f n) 0 f (fun _ => nilS) (fun _ => nilS) cl := by
    have hXX := HX.out
    obtain ⟨cur, hk⟩ : ∃ cur, w2.heap[w.heap.size + 1]? = some (.cells cur 244 (0, 0)) := by
      rcases HO.out.2 with ⟨e1, _⟩ | ⟨g, cap, cur, e1, _, h3, _⟩
      · cases e1
      · have : w.heap.size + 1 = g := by simpa [Value.ownBlock] using congrArg Value.ownBlock e1
        rw [this]; exact ⟨cur, h3⟩
    refine ⟨zAc hXX, ⟨cur, (Below.heap_setCell _ _ _ _ (by simp)).trans hk⟩, fun c hc => ?_, fun c hc => ⟨rfl, rfl⟩⟩
    have hx : ∀ j, j < n * 2 → w2.cell? ⟨w.heap.size + 1, j, none⟩ = some nilS := fun j hj => by
      have := HO.out.cellAt j hj
      simp only [World.size_alloc] at this
      rw [this]
      exact zFu _ _ _ hj
    refine ⟨?_, ?_⟩ <;> rw [World.cell?_setCell_other (h := zAw (.inl (by omega)))]
    · exact hx _ (by omega)
    · exact hx _ (by omega)
  have HC0 := lhd hC0
  have HB2 : Hid (Below w.heap.size w (w2.setCell ⟨w.heap.size, 2, none⟩ (.slice (some ⟨w.heap.size + 1, 0, none⟩) n n))) := lhd (HB1.out.setCell (p := ⟨w.heap.size, 2, none⟩) (Nat.le_refl _) _)
  clear hC0 HO HX HB1 hx2 hxf hkb2
  generalize hcnt : cntF f n = cnt at *
  generalize w2.setCell ⟨w.heap.size, 2, none⟩ (.slice (some ⟨w.heap.size + 1, 0, none⟩) n n) = w3 at *
  obtain ⟨X, hX⟩ : ∃ X, X = w.heap.size := ⟨_, rfl⟩
  obtain ⟨kx, hkx⟩ : ∃ kx, kx = w.heap.size + 1 := ⟨_, rfl⟩
  rw [← hkx, ← hX] at HC0
  rw [← hX] at HB2
  rw [← hkx, ← hX]
  have HXE := lhd hX
  have HKE := lhd hkx
  clear hX hkx
  go_loopw [4, 5, 23] (fun _ _ i wr => ∃ k : Nat, k ≤ n ∧ i = .int .i64 k ∧ Below X w wr ∧ ∃ rv' sv', CloM wr X kx n size cnt k f rv' sv' cl) (fun _ _ i _ => n - (intOf i).toNat)
  case atStart => exact ⟨0, Nat.zero_le _, rfl, HB2.out, _, _, HC0.out⟩
  case round =>
    clear HC0 HB2
    obtain ⟨k, hk, rfl, hbel, rv', sv', hclo⟩ := hrel
    have HB := lhd hbel
    have HC := lhd hclo
    by_cases hlt2 : k < n
    · have hX := HXE.out
      rw [hX] at hbel
      have hSr := HS.out.mono hbel
      obtain ⟨k1, k2⟩ := hSr.kcell k hlt2
      obtain ⟨r, s, ar, cr, ay, cy, e1, e2, l1, l2, hr1, hr2, hpl⟩ := hSr.lists hlt2
      rw [e1] at k1 l1
      rw [e2] at k2 l2
      have HPL := lhd hpl
      rw [e1, e2] at HPL
      have hbE : Below wr.heap.size wr (wr.alloc (.cells #[.slice ar r.length cr, .slice ay s.length cy] 244)).drew := ((Below.refl _ _).alloc (Nat.le_refl _) _).drew
      have HL1 := lhd (l1.mono hbE)
      have HL2 := lhd (l2.mono hbE)
      have HCE := lhd (hclo.mono hbE)
      have HBE := lhd (HB.out.trans (hbE.mono (by rw [hX]; exact hbel.size)))
      have hx2 : (wr.alloc (.cells #[.slice ar r.length cr, .slice ay s.length cy] 244)).drew.cell? ⟨X, 2, none⟩ = some (.slice (some ⟨kx, 0, none⟩) n n) := zAa (j := 2) HCE.out.obj rfl
      have hE : (wr.alloc (.cells #[.slice ar r.length cr, .slice ay s.length cy] 244)).drew.heap[wr.heap.size]? = some (.cells #[.slice ar r.length cr, .slice ay s.length cy] 244 (0, 0)) := heap_alloc_new wr _
      have HX2 : Hid ((wr.alloc (.cells #[.slice ar r.length cr, .slice ay s.length cy] 244)).drew.cell? ⟨X, 2, none⟩ = some (.slice (some ⟨kx, 0, none⟩) n n) ∧ (wr.alloc (.cells #[.slice ar r.length cr, .slice ay s.length cy] 244)).drew.cell? ⟨wr.heap.size, 0, none⟩ = some (.slice ar r.length cr) ∧ (wr.alloc (.cells #[.slice ar r.length cr, .slice ay s.length cy] 244)).drew.cell? ⟨wr.heap.size, 1, none⟩ = some (.slice ay s.length cy)) := lhd ⟨hx2, zAa (j := 0) hE rfl, zAa (j := 1) hE rfl⟩
      have HXF : Hid (∀ W, Below (wr.alloc (.cells #[.slice ar r.length cr, .slice ay s.length cy] 244)).drew.heap.size (wr.alloc (.cells #[.slice ar r.length cr, .slice ay s.length cy] 244)).drew W → W.cell? ⟨X, 2, none⟩ = some (.slice (some ⟨kx, 0, none⟩) n n) ∧ W.cell? ⟨wr.heap.size, 0, none⟩ = some (.slice ar r.length cr) ∧ W.cell? ⟨wr.heap.size, 1, none⟩ = some (.slice ay s.length cy)) := lhd fun W hW => ⟨zAa (j := 2) (HCE.out.mono hW).obj rfl, (hW.cell (p := ⟨wr.heap.size, 0, none⟩) (by simp)).trans HX2.out.2.1, (hW.cell (p := ⟨wr.heap.size, 1, none⟩) (by simp)).trans HX2.out.2.2⟩
      have hkne : kx ≠ wr.heap.size := by have := HC.out.klt; omega
      have HXG : Hid (∀ W u1 u2, Below (wr.alloc (.cells #[.slice ar r.length cr, .slice ay s.length cy] 244)).drew.heap.size (wr.alloc (.cells #[.slice ar r.length cr, .slice ay s.length cy] 244)).drew W → ((W.setCell ⟨kx, k * 2, none⟩ u1).setCell ⟨kx, k * 2 + 1, none⟩ u2).cell? ⟨X, 2, none⟩ = some (.slice (some ⟨kx, 0, none⟩) n n) ∧ ((W.setCell ⟨kx, k * 2, none⟩ u1).setCell ⟨kx, k * 2 + 1, none⟩ u2).cell? ⟨wr.heap.size, 0, none⟩ = some (.slice ar r.length cr) ∧ ((W.setCell ⟨kx, k * 2, none⟩ u1).setCell ⟨kx, k * 2 + 1, none⟩ u2).cell? ⟨wr.heap.size, 1, none⟩ = some (.slice ay s.length cy)) := lhd fun W u1 u2 hW => by
        have hn := HC.out.ne
        obtain ⟨q1, q2, q3⟩ := HXF.out W hW
        refine ⟨?_, ?_, ?_⟩ <;> rw [World.cell?_setCell_other (h := zAw (.inl (by omega))), World.cell?_setCell_other (h := zAw (.inl (by omega)))]
        · exact q1
        · exact q2
        · exact q3
      clear hSr hbel hclo hpl l1 l2 hbE e1 e2 hx2 hX hE
      go_wp2_with fail
      (
        go_region_held3 (fun w' => w'.cell? ⟨X, 2, none⟩ = some (.slice (some ⟨kx, 0, none⟩) n n) ∧ w'.cell? ⟨wr.heap.size, 0, none⟩ = some (.slice ar r.length cr) ∧ w'.cell? ⟨wr.heap.size, 1, none⟩ = some (.slice ay s.length cy))
          (first | exact HX2.out | exact HXF.out _ HB5.out | exact HXG.out _ _ _ HB5.out | go_keep)
          (first
          | (go_at_call 154; (with_reducible refine (zDr _ _ r s HL1.out HL2.out hr1 hr2).mono ?_); rintro e w5 ⟨p1, p2, rfl, ho1, ho2, hz1', hz2', hb5⟩; have HP5 := lhd (HPL.out w5 _ p1 p2 ho1 ho2 hz1' hz2'); have HC5 := lhd (HCE.out.mono hb5); have HB5 := lhd hb5; obtain ⟨a1, c1, rfl, -, -⟩ := zAe ho1; obtain ⟨a2, c2, rfl, -, -⟩ := zAe ho2; obtain ⟨hq1, hq2⟩ := HC5.out.kcell k hlt2; obtain ⟨curq, hkq⟩ := HC5.out.kobj; have hf1 := zAb (j := k * 2) hkq; have hf2 := zAb (j := k * 2 + 1) hkq; clear ho1 ho2 hz1' hz2' hb5 hkq)))
      go_wp2
      go_roundw
      case rel =>
        have hz := HBE.out.size
        have hXe := HXE.out
        have hKe := HKE.out
        exact ⟨k + 1, by omega, by go_num, ((HBE.out.trans (HB5.out.mono (by rw [hXe]; exact hz))).setCell (p := ⟨kx, k * 2, none⟩) (by rw [hXe, hKe]; exact Nat.le_succ _) _).setCell (p := ⟨kx, k * 2 + 1, none⟩) (by rw [hXe, hKe]; exact Nat.le_succ _) _, _, _, HC5.out.put hlt2 HP5.out⟩
      case measure => simp [intOf]; omega
    · have hkn : k = n := by omega
      subst hkn
      clear hbel hclo hlt2
      go_wp2
      go_ret
      have hXe := HXE.out
      have hKe := HKE.out
      exact ⟨X, kx, rv', sv', rfl, CloM.full (by rw [hcnt]; exact HC.out) ⟨hn1, hn2, hs1, hs2⟩, by omega, by omega, by rw [← hXe]; exact HB.out⟩
theorem zK3 {w : World} {b n size r kb : Nat} {K : List Vec} {cl : Bool} (h : Sys w b n size K r cl kb) :
    Calls Tryz.prog 121 #[sysP b] w fun e w' => ∃ X kx, e = .returned (sysP X) ∧ Sys w' X n size K r cl kx ∧ w.heap.size ≤ X ∧ w.heap.size ≤ kx ∧ Below w.heap.size w w' := by
  obtain ⟨f, rv, sv, h1, h2, rfl⟩ := h
  refine (zGr b kb n size f rv sv cl h1).mono ?_
  rintro e w' ⟨X, kx, rv', sv', rfl, k1, k2, k3, k4⟩
  exact ⟨X, kx, rfl, ⟨f, rv', sv', k1, h2, rfl⟩, k2, k3, k4⟩
end

section
open Go.RowKit Go.Extern.Stop Go.Stop Go.Extern
theorem zMW {w : World} (k : Nat) (hk1 : 1 ≤ k) (hk2 : k ≤ 128) (hT : DgTab w) (hB : Tab w) :
    Calls Tryz.prog 90 #[.int .i64 (k : Int)] w fun e w' => ∃ s h l p sd : Nat, e = .returned (.tuple #[.int .i64 (sd : Int), .nilIface]) ∧ OfP k s h l p ∧ IsSeed k s h l p sd ∧ Below w.heap.size w w' := by
  obtain ⟨i0, hi, hz0, hz1, hz2⟩ := info_parts zAY
  have HT := lhd hT
  have HBT := lhd hB
  clear hT hB
  go_enter Tryz.func90, Tryz.ntmps90
  go_wp2_with fail
  go_step3
  go_wp2_with fail
  refine (Of_in k hk1 hk2).mono ?_
  rintro e w1 ⟨s, h, l, p, rfl, hof, hb1⟩
  have HOF := lhd hof
  obtain ⟨sd, hsd⟩ := zIt hof hk1 hk2
  have HSD := lhd hsd
  have hsd1 := hsd.1
  obtain ⟨W, hW, hbW, hby⟩ := zAi w1 k s h l p
  have HW := lhd hW
  have HB1 := lhd (hb1.trans (hbW.mono hb1.size))
  have HX1 := lhd hby
  have HK := lhd (show 1 ≤ k ∧ k ≤ 128 from ⟨hk1, hk2⟩)
  have HBG : Hid (Calls Tryz.prog 120 #[.agg #[.int .i64 (k : Int), .int .i64 (s : Int), .int .i64 (h : Int), .int .i64 (l : Int), .int .i64 (p : Int)], .int .i64 1] W fun e w' => ∃ b kb, e = .returned (.tuple #[sysP b, .nilIface]) ∧ Sys w' b l 1 (sysF k s h l 1) (s + h) false kb ∧ W.heap.size ≤ b ∧ W.heap.size ≤ kb ∧ Below W.heap.size W w') := lhd (zG2 k s h l p 1 hof hk1 hk2 (by decide) (by decide) (HBT.out.mono HB1.out))
  obtain ⟨c0, c1, c2, c3, c4⟩ := hby.cells
  clear hof hsd hW hbW hby hb1
  unfold parV parC
  go_upto_region 2 with fail
  rw [← HW.out]
  obtain ⟨g1, hg1⟩ : ∃ g1, w1.heap.size = g1 := ⟨_, rfl⟩
  rw [hg1] at HX1 c0 c1 c2 c3 c4 ⊢
  clear hg1
  go_wp2_with fail
  refine HBG.out.mono ?_
  rintro e w2 ⟨b, kb, rfl, hsys, hgb, hgk, hb2⟩
  have HS2 := lhd hsys
  have HB2 := lhd (HB1.out.trans (hb2.mono HB1.out.size))
  have HX2 := lhd (HX1.out.mono hb2)
  have hsz2 := HB2.out.size
  clear hsys hgb hgk hb2 c0 c1 c2 c3 c4
  go_wp2_with (at_make; refine wpList_make_full _ rfl _ _ 31 rfl w.heap.size 5 i0 (.int .u8 0) 1 Tryz.underlying31 hi hz0 hz1 .i64 .i64 _ _ 1 rfl rfl rfl rfl (by rw [hz2]; omega) (by unfold maxLen; omega) hsz2 ?_; intro w3 hown0 hgrow0; have hb3 := lhd ((Below.refl w2.heap.size w2).grown hgrow0 (Nat.le_refl _) (fun k hk => by cases hk)); have ho3 := lhd hown0; clear hown0 hgrow0)
  have HS3 := lhd (HS2.out.mono hb3.out)
  have HX3 := lhd (HX2.out.mono hb3.out)
  have HB3 := lhd (HB2.out.trans (hb3.out.mono hsz2))
  have HO3 : Hid (ListAt byteV w3 (.slice (some ⟨w2.heap.size, 0, none⟩) 1 1) (List.replicate 1 0)) := lhd (by
    have := ho3.out
    rw [Nat.mul_one] at this
    refine ListAt.of_owns (f := byteV) (base := w.heap.size) (n := 1) (e := 5) ?_
    rw [List.map_replicate]
    exact toList_madeCells_one (.int .u8 0) 1 ▸ this)
  generalize w2.heap.size = g2 at *
  have HT3 := lhd (PairsAt.mono HT.out HB3.out)
  have HBT3 := lhd (HBT.out.mono HB3.out)
  have HEQ : Hid (sysF k s h l 1 = sysE k s h l p 0 1 (fun _ => List.replicate 1 0) 0) := lhd (zC2 ..).symm
  clear hb3 ho3 HS2 HX1 HX2
  go_step3
  go_wp2_with fail
  go_loopg [32] 65537 (fun gk i wr => ∃ t : Nat, i = .int .i64 t ∧ t ≤ sd ∧ sd - t < gk ∧ Below w3.heap.size w3 wr)
  case atStart => exact ⟨0, rfl, Nat.zero_le _, by omega, Below.refl _ _⟩
  case round =>
    obtain ⟨t, rfl, hts, hgk, hbel⟩ := hrel
    obtain ⟨go, rfl⟩ : ∃ go, go = gk := ⟨gk, rfl⟩
    have HTS := lhd hts
    have HGO := lhd hgk
    have HBL := lhd hbel
    have HCL := lhd (zK3 (HS3.out.mono hbel))
    have htl : t < 65536 := by omega
    have dt : decide ((t : Int) < 65536) = true := decide_eq_true (by omega)
    clear hts hgk hbel
    go_wp2_with fail
    refine HCL.out.mono ?_
    rintro e w4 ⟨X, kx, rfl, hsx, hgX, hgK, hb4⟩
    have HBX4 := lhd (HBL.out.trans (hb4.mono HBL.out.size))
    have HGX : Hid (w3.heap.size ≤ X ∧ w3.heap.size ≤ kx) := lhd ⟨Nat.le_trans HBL.out.size hgX, Nat.le_trans HBL.out.size hgK⟩
    have HSX : Hid (Sys w4 X l 1 (sysE k s h l p t 1 (fun _ => List.replicate 1 0) 0) (s + h + 0) false kx) := lhd (by rw [zC2]; exact hsx)
    have HR0 := lhd (zL8 k s h l p t)
    clear hsx hgX hgK hb4
    go_wp2_with fail
    go_loopg [38] 129 (fun gd j wr => ∃ q : Nat, j = .int .i64 q ∧ q ≤ k ∧ k - q < gd ∧ Sys wr X l 1 (sysE k s h l p t 1 (fun _ => List.replicate 1 0) q) (s + h + q) false kx ∧ rankA k s h l p t (List.range q) = s + h + q ∧ Below w3.heap.size w3 wr)
    case atStart => exact ⟨0, rfl, Nat.zero_le _, by omega, HSX.out, HR0.out, HBX4.out⟩
    case round =>
      obtain ⟨q, rfl, hqk, hgd, hsx, hrq, hbel⟩ := hrel
      clear HSX HR0 HBX4 HBL
      have HBL := lhd hbel
      have HGD := lhd hgd
      obtain ⟨c0, c1, c2, c3, c4⟩ := (HX3.out.mono hbel).cells
      by_cases hlt : q < k
      · have dq : decide ((q : Int) < (k : Int)) = true := decide_eq_true (by omega)
        have HFI := lhd (zFn (size := 1) (src := fun _ => List.replicate 1 0) (y := List.replicate 1 0) HOF.out.2.2.1 hrq)
        have HQK := lhd hlt
        have HAD := lhd (zLU X (sysE k s h l p t 1 (fun _ => List.replicate 1 0) q) (s + h + q) kx k s h l p t q 1 _ (List.replicate 1 0) hsx HOF.out hk1 hk2 htl (by omega) (HO3.out.mono hbel) List.length_replicate (zC3 1) (PairsAt.mono HT3.out hbel) (HBT3.out.mono hbel))
        have HES := lhd (zFz k s h l p t 1 (fun _ => List.replicate 1 0) q)
        obtain ⟨kd, hkd⟩ : ∃ kd, kindV l (sysE k s h l p t 1 (fun _ => List.replicate 1 0) q) (eqL l (rowE l p t q) (List.replicate 1 0)) = kd := ⟨_, rfl⟩
        by_cases h1 : kd = 1
        · subst h1
          have HAE : Hid (Calls Tryz.prog 122 #[sysP X, .agg #[.int .i64 (k : Int), .int .i64 (s : Int), .int .i64 (h : Int), .int .i64 (l : Int), .int .i64 (p : Int)], .int .i64 (t : Int), .int .i64 (q : Int), .slice (some ⟨g2, 0, none⟩) 1 1] wr fun e w' => e = .returned (.tuple #[.int .i64 1, .nilIface]) ∧ Touch X kx wr w' ∧ Sys w' X l 1 (sysE k s h l p t 1 (fun _ => List.replicate 1 0) (q + 1)) (s + h + (q + 1)) false kx) := lhd (by
            refine HAD.out.mono ?_
            rintro e w' ⟨rfl, h1, h2⟩
            unfold addV addR at h2
            rw [hkd] at h2 ⊢
            refine ⟨rfl, h1, ?_⟩
            rw [HES.out]
            exact h2)
          have HRQ := lhd (HFI.out.1 hkd)
          clear HAD HFI HES hkd hsx hrq hbel hgd
          go_wp2_with fail
          refine HAE.out.mono ?_
          rintro e w5 ⟨rfl, ht5, hs5⟩
          have HS5 := lhd hs5
          have HB5 := lhd (HBL.out.trans (ht5.below HGX.out.1 HGX.out.2 HBL.out.size))
          obtain ⟨g', rfl⟩ : ∃ g', gk = g' + 1 := ⟨gk - 1, by have := HGD.out; omega⟩
          clear ht5 hs5 c0 c1 c2 c3 c4
          go_wp2_with fail
          go_roundg g'
          case measure => omega
          case rel => exact ⟨q + 1, by go_num, by omega, by have := HGD.out; omega, HS5.out, HRQ.out, HB5.out⟩
        · have HAE : Hid (Calls Tryz.prog 122 #[sysP X, .agg #[.int .i64 (k : Int), .int .i64 (s : Int), .int .i64 (h : Int), .int .i64 (l : Int), .int .i64 (p : Int)], .int .i64 (t : Int), .int .i64 (q : Int), .slice (some ⟨g2, 0, none⟩) 1 1] wr fun e w' => e = .returned (.tuple #[.int .i64 (kd : Int), .nilIface]) ∧ Touch X kx wr w') := lhd (by
            refine HAD.out.mono ?_
            rintro e w' ⟨rfl, h1, h2⟩
            rw [hkd]
            exact ⟨rfl, h1⟩)
          have HLT : Hid (t < sd) := lhd (by
            have h2 := HFI.out.2 (by rw [hkd]; exact h1) k hlt
            have h3 := HSD.out.2.1
            have h4 := HOF.out.2.2.1
            rcases Nat.lt_or_ge t sd with h5 | h5
            · exact h5
            · have h6 := HTS.out
              obtain rfl : t = sd := by omega
              rw [h3] at h2
              omega)
          have hkb1 : ((kd : Int) == 1) = false := by rw [beq_eq_false_iff_ne]; omega
          have hkb2 : ((kd : Int) != 1) = true := by rw [bne_iff_ne]; omega
          clear HAD HFI HES hkd hsx hrq hbel hgd h1
          go_wp2_with fail
          refine HAE.out.mono ?_
          rintro e w5 ⟨rfl, ht5⟩
          have HB5 := lhd (HBL.out.trans (ht5.below HGX.out.1 HGX.out.2 HBL.out.size))
          obtain ⟨g', rfl⟩ : ∃ g', go = g' + 1 := ⟨go - 1, by have := HGO.out; omega⟩
          clear ht5 c0 c1 c2 c3 c4
          go_wp2_with fail
          go_roundg g'
          case measure => omega
          case rel => exact ⟨t + 1, by go_num, HLT.out, by have := HGO.out; have := HLT.out; omega, HB5.out⟩
      · have dq : decide ((q : Int) < (k : Int)) = false := decide_eq_false (by omega)
        have hqk' : q = k := by omega
        have HSE : Hid (t = sd) := lhd (by
          have h3 := HSD.out.2.2
          have h4 := HOF.out.2.2.1
          rcases Nat.lt_or_ge t sd with h5 | h5
          · refine absurd ?_ (h3 t h5)
            have hr2 := hrq
            rw [hqk'] at hr2
            omega
          · have h6 := HTS.out
            omega)
        clear hsx hrq hbel hgd c0 c1 c2 c3 c4
        go_wp2_with fail
        try rw [Exit.noGoto_ret]
        go_ret2
        exact ⟨s, h, l, p, t, rfl, HOF.out, by rw [HSE.out]; exact HSD.out, HB3.out.trans (HBL.out.mono HB3.out.size)⟩
end
end Go.Proofs.YtkfimdpcadbcpaaGreatDoor
