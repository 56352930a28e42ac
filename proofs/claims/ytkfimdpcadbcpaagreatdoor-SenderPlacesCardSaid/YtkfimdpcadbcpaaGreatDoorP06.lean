import Derived.Deep.RegionLaw
import Derived.Test.YtkfimdpcadbcpaaGreatDoorP04
import Derived.Test.YtkfimdpcadbcpaaGreatDoorP05
import Derived.Test.YtkfimdpcadbcpaaGreatDoorP01
import Derived.Deep.AppendLies
import Derived.Test.YtkfimdpcadbcpaaGreatDoorChecked
import Derived.WalkKit
import Derived.LaidEql
import Derived.Stop.Asserts
import Derived.RowKitTokens
import Derived.Lib.Hide
import Derived.Elder7
import Derived.Defers
import Derived.Recover
import Derived.Laws.Pointers
import Derived.Lib.SlBytesConst
import Derived.Test.YtkfimdpcadbcpaaGreatDoorP03
import Derived.ProofKit
import Derived.OpenShut
import Derived.Laws.AppendOwn
import Derived.Laws.OwnMore
import Derived.Laws.MakeOwn
import Derived.Laws.CopyOwn
import Derived.Lib.BitFns
import Derived.Lib.TrailingZeros
import Derived.Laws.Bits64b
import Derived.Laws.Bits128
import Derived.BigQuiet
import Derived.WalkSmall
import Derived.Deep.QuietTactic
import Derived.Laws.ShiftsVar
import Derived.OwnWalk
import Derived.WalkSpells
import Derived.WalkLawsBesides
import Derived.Deep.LoopGhost
import Derived.Deep.DeepHandedRow
import Derived.Deep.Strs
import Derived.LaidHandle
import Derived.ChangeSlices
import Derived.SizedLaws
import Derived.Deep.Matrix
import Derived.Deep.Grids
import Derived.Lib.SmallJoins
import Derived.Deep.RegionHeld3
import Derived.Maps.AppendAt
import Derived.Lib.AppendZerosOnto
import Derived.Lib.AppendZeros
import Derived.Laws.Append
import Derived.Deep.RegionHeld
import Derived.Deep.MidRow
import Derived.WalkMore
import Derived.Deep.Cut
import Derived.Deep.CutBlock
import Derived.Deep.CutRange
import Derived.Deep.DeepCutAuto
import Derived.Laws.Bits64
import Derived.LaidLaws
import Derived.ChangeArms
import Derived.ChangeSame
import Derived.FnData
import Derived.RangeFuncNested
import Derived.RangeFuncBound
import Derived.RangeFuncCalls
import Derived.RangeFuncLeaves
import Derived.Shelf.Abstract
import Derived.Shelf.RegionOpen
import Derived.OwnWalkIn
import Derived.TacticsInMore
import Derived.LoopNIn
import Derived.LoopIn
import Derived.StillTailTactics
import Derived.OrdersIn
import Derived.Shelf.Sort.Plain
import Derived.Sort.OwnSortedInts
import Derived.Shelf.Strconv.Itoa0
import Derived.Shelf.Spec.TrailingZeros
import Derived.Laws.AppendOwnNone
import Derived.Test.YtkfimdpcadbcpaaGreatDoorP02
import Derived.Test.YtkfimdpcadbcpaaGreatDoorA33
set_option linter.unusedSimpArgs false
set_option linter.unusedVariables false
set_option maxRecDepth 1000000
set_option maxHeartbeats 8000000
namespace Go.Proofs.YtkfimdpcadbcpaaGreatDoor
section
open Go.RowKit Go.Extern.Stop Go.Stop Go.Extern
theorem yBa {w : World} (v : Value) (c : List Nat) (kd : Int) (h : ListAt byteV w v c) (ho : Octets c) (hR : c.length ≤ 140737488351248) : Calls Tryz.prog 44 #[v, .int .i64 kd] w fun e w' =>
    ∃ v', e = .returned v' ∧ PktNew w.heap.size w' v' (gsP c kd) ∧ Below w.heap.size w w' := by
  unfold gsP
  by_cases hk : kd = 1
  · rw [if_pos hk]; exact yAT v c kd hk h ho hR
  · rw [if_neg hk]; exact yAQ v c kd hk h ho hR
theorem numI {c : List Nat} (ho : Octets c) (a k : Nat) (hk : k ≤ 5) : I64 ((numA c a k : Nat) : Int) ∧ I64 (((numA c a k : Nat) : Int) + 1) := by
  have h := Nat.lt_of_lt_of_le (yAb c ho a k) (show 256 ^ k ≤ 256 ^ 5 from Nat.pow_le_pow_right (by decide) hk)
  have h2 : (256 : Nat) ^ 5 = 1099511627776 := by decide
  rw [h2] at h
  exact ⟨⟨by omega, by omega⟩, ⟨by omega, by omega⟩⟩
theorem yBX {c : List Nat} (ho : Octets c) (kd : Int) (hk : I64 kd) : FitsP (gsP c kd) := by
  have z : I64 0 := ⟨by decide, by decide⟩
  have hr : I64 (((numA c 9 1 % 128 : Nat) : Int) - 1) := ⟨by omega, by omega⟩
  unfold gsP
  split
  · exact ⟨hk, (numI ho 1 2 (by decide)).1, (numI ho 3 1 (by decide)).1, (numI ho 4 5 (by decide)).1, hr, (numI ho 10 2 (by decide)).1, (numI ho 12 2 (by decide)).1, (numI ho 14 1 (by decide)).1, (numI ho 15 2 (by decide)).1, z, z, z, z, z, z, z, z, z, fun x hx => ho x (List.mem_of_mem_drop hx)⟩
  · exact ⟨hk, (numI ho 1 2 (by decide)).1, (numI ho 3 1 (by decide)).1, (numI ho 4 5 (by decide)).1, z, z, z, z, z, (numI ho 9 4 (by decide)).1, (numI ho 13 1 (by decide)).1, (numI ho 14 1 (by decide)).1, (numI ho 15 1 (by decide)).1, (numI ho 16 1 (by decide)).1, (numI ho 17 1 (by decide)).1, (numI ho 18 2 (by decide)).2, (numI ho 20 2 (by decide)).1, (numI ho 22 2 (by decide)).1, fun x hx => by cases hx⟩
def GotP (l : List Nat) (k : Int) (p : Pkt) : Prop :=
  (l.length < 4 ∧ k = 2 ∧ p = pkt0) ∨ (4 ≤ l.length ∧ ¬ WholeS l ∧ k = 6 ∧ p = pkt0) ∨
  (4 ≤ l.length ∧ WholeS l ∧ (∀ q, ¬ IsPkt (l.take (l.length - 4)) q) ∧ k = 2 ∧ p = pkt0) ∨ (4 ≤ l.length ∧ WholeS l ∧ k = 0 ∧ IsPkt (l.take (l.length - 4)) p)
theorem GotP.same {l : List Nat} {k k' : Int} {p p' : Pkt} (h : GotP l k p) (h' : GotP l k' p') : k = k' ∧ p = p' := by
  rcases h with ⟨a, b, c⟩ | ⟨a, b, c, d⟩ | ⟨a, b, c, d, e⟩ | ⟨a, b, c, d⟩ <;> rcases h' with ⟨a', b', c'⟩ | ⟨a', b', c', d'⟩ | ⟨a', b', c', d', e'⟩ | ⟨a', b', c', d'⟩
  all_goals first
    | omega
    | exact absurd b' b
    | exact absurd b b'
    | exact absurd d' (c p')
    | exact absurd d (c' p)
    | exact ⟨by rw [b, b'], by rw [c, c']⟩
    | exact ⟨by rw [c, c'], by rw [d, d']⟩
    | exact ⟨by rw [d, d'], by rw [e, e']⟩
    | exact ⟨by rw [c, c'], d.same d'⟩
section
variable {P : Program} {ops : Array Oper} {rest : List Oper} {o : Oper} {a : Act} {w : World} {Q : Exit → Act → World → Prop}
theorem yAk {K : Act → World → Prop} {E : Prop} (hw : Region.wanted o (yielded ops a.tmps) = true) (ty : TypeId) (x : Operand) (ho : o.op = .load ty x)
    (g : Nat) (hx : a.eval x = .pointer (some ⟨g, 0, none⟩)) (t : TypeId) (cs : Array Value) (fr : Nat × Nat) (d : TypeDesc) (hg : w.heap[g]? = some (.cells cs t fr))
    (hu : P.underlying ty = some d) (hd : (match d with | .struct _ | .array _ _ => true | _ => false) = true) (hi : (P.info? ty).map (·.size) = some cs.size)
    (h : K (a.put o.dst (.agg cs)) w) : if Region.wanted o (yielded ops a.tmps) = true then Oper.wp P o a w K Q else E := by
  rw [if_pos hw]; exact wp_load_row ty x ho g hx t cs fr d hg hu hd hi h
end
theorem yAS (k : Nat) (x : Int) : (pktC pkt0 nilS)[k]? ≠ some (.int .u8 x) := fun h => by
  have hm := Array.mem_of_getElem? h
  simp [pktC, pkt0] at hm
theorem yAH {w : World} {g : Nat} {t : TypeId} {fr : Nat × Nat} {v : Value} {l : List Nat} (hg : w.heap[g]? = some (.cells (pktC pkt0 nilS) t fr)) (h : ListAt byteV w v l) (cs : Array Value) : ListAt byteV (w.setRow g cs) v l := by
  obtain ⟨a, cap, rfl, h1, h2, h3⟩ := h
  refine ⟨a, cap, rfl, h1, h2, fun hp => ?_⟩
  obtain ⟨b, off, rfl, hc⟩ := h3 hp
  refine ⟨b, off, rfl, fun j hj => ?_⟩
  have hne : b ≠ g := by
    rintro rfl
    have e := hc j hj
    have e2 : w.cell? ⟨b, off + j, none⟩ = (pktC pkt0 nilS)[off + j]? := by simp [World.cell?, hg]
    rw [e2] at e
    exact yAS _ _ e
  rw [← hc j hj]
  exact World.cell?_of_block (w := w) (a := ⟨b, off + j, none⟩) (setRow_other _ _ _ _ hne)
theorem yBt {w : World} (v : Value) (l : List Nat) (h : ListAt byteV w v l) (ho : Octets l) (hR : l.length ≤ 140737488351232) : Calls Tryz.prog 26 #[v] w fun e w' =>
    ∃ v' k p, e = .returned (.tuple #[v', .int .i64 k]) ∧ PktNew w.heap.size w' v' p ∧ GotP l k p ∧ Below w.heap.size w w' := by
  have HTK := lhd fun (V : World) (hV : Below w.heap.size w V) => yBg v l (h.mono hV) ho hR
  obtain ⟨W1, hW1, hb1, hx1⟩ := zAz w pkt0 nilS
  have HB := lhd hb1
  have HW := lhd hW1
  have HX := lhd hx1
  have HO := lhd ho
  unfold pktC pkt0 at HW
  clear hW1 hb1 hx1 ho
  go_enter Tryz.func26, Tryz.ntmps26
  go_upto_region 1 with fail
  rw [← HW.out]
  go_wp2_with fail
  refine (HTK.out _ HB.out).mono ?_
  rintro e w2 ⟨hb2, ⟨h4, rfl⟩ | ⟨h4, hnw, rfl⟩ | ⟨h4, hws, v2, rfl, hl2⟩⟩
  · have HV2 := lhd (HB.out.trans (hb2.mono HB.out.size))
    have HR8 := lhd (HX.out.mono hb2)
    clear hb2
    go_wp2_with (first
      | ((with_reducible show wpList _ _ _ (⟨some 15, _, _, _, _, _⟩ :: _) _ _); refine zAk rfl 63 _ rfl (pktC pkt0 nilS) (by kernel_rfl) ?_)
      | ((with_reducible show wpList _ _ _ (⟨none, _, _, _, _, _⟩ :: _) _ _); refine wpList_store_row rfl 63 (.tmp 2) (.tmp 15) rfl w.heap.size (pktC pkt0 nilS) rfl rfl 63 _ HR8.out (by kernel_rfl) (by rfl) (by kernel_rfl) ?_))
    refine bodyPost_ret (zGl rfl _ _ w.heap.size 63 _ (0, 0) _ rfl (setRow_heap _ _ _ _ _ _ HR8.out) Tryz.underlying63 rfl (by kernel_rfl)) rfl ?_
    exact ⟨_, 2, pkt0, rfl, ⟨nilS, rfl, ListAt.nil _ _, fun b hb => by simp [Value.ownBlock] at hb⟩, .inl ⟨h4, rfl, rfl⟩, below_setRow HV2.out (Nat.le_refl _) _⟩
  · have HV2 := lhd (HB.out.trans (hb2.mono HB.out.size))
    have HR8 := lhd (HX.out.mono hb2)
    clear hb2
    go_wp2_with (first
      | ((with_reducible show wpList _ _ _ (⟨some 15, _, _, _, _, _⟩ :: _) _ _); refine zAk rfl 63 _ rfl (pktC pkt0 nilS) (by kernel_rfl) ?_)
      | ((with_reducible show wpList _ _ _ (⟨none, _, _, _, _, _⟩ :: _) _ _); refine wpList_store_row rfl 63 (.tmp 2) (.tmp 15) rfl w.heap.size (pktC pkt0 nilS) rfl rfl 63 _ HR8.out (by kernel_rfl) (by rfl) (by kernel_rfl) ?_))
    refine bodyPost_ret (zGl rfl _ _ w.heap.size 63 _ (0, 0) _ rfl (setRow_heap _ _ _ _ _ _ HR8.out) Tryz.underlying63 rfl (by kernel_rfl)) rfl ?_
    exact ⟨_, 6, pkt0, rfl, ⟨nilS, rfl, ListAt.nil _ _, fun b hb => by simp [Value.ownBlock] at hb⟩, .inr (.inl ⟨h4, hnw, rfl, rfl⟩), below_setRow HV2.out (Nat.le_refl _) _⟩
  · have HV2 := lhd hb2
    have HL2 := lhd hl2
    have HOB : Hid (Octets (l.take (l.length - 4))) := lhd fun x hx => HO.out x (List.mem_of_mem_take hx)
    have hcl : (l.take (l.length - 4)).length ≤ 140737488351232 := by rw [List.length_take]; omega
    obtain ⟨C, hC⟩ : ∃ C, C = l.take (l.length - 4) := ⟨_, rfl⟩
    rw [← hC] at HL2 HOB hcl
    have HCC := lhd hC
    have HWS := lhd hws
    clear hb2 hl2 hC hws HTK
    obtain ⟨a2, c2, hv2, -, -, -⟩ := HL2.out
    subst hv2
    have HST := lhd (fun (V : World) (hV : Below w2.heap.size w2 V) => (HL2.out.mono hV).str)
    go_upto_region 4 with fail
    go_wp2_with fail
    go_loopw [6] (fun i wr => ∃ k : Nat, 1 ≤ k ∧ k ≤ 3 ∧ i = .int .i64 (k : Int) ∧ (∀ t : Nat, 1 ≤ t → t < k → ¬ IsPkt C (gsP C (t : Int))) ∧ Below W1.heap.size W1 wr ∧ Below w2.heap.size w2 wr) (fun i _ => 3 - (intOf i).toNat)
    case atStart => exact ⟨1, by omega, by omega, rfl, fun t h1 h2 => by omega, HV2.out, Below.refl _ _⟩
    case round =>
      obtain ⟨k, hk1, hk3, rfl, hno, hbel, hbel2⟩ := hrel
      have HBL := lhd hbel
      have HBL2 := lhd hbel2
      have HNO := lhd hno
      clear hbel hbel2 hno
      by_cases hlt : k ≤ 2
      · have d1 : decide ((k : Int) ≤ 2) = true := decide_eq_true (by omega)
        have HG := lhd (yBa _ C (k : Int) (HL2.out.mono HBL2.out) HOB.out (by omega))
        have HFT := lhd (yBX HOB.out (k : Int) ⟨by omega, by omega⟩)
        obtain ⟨P, hP⟩ : ∃ P, P = gsP C (k : Int) := ⟨_, rfl⟩
        rw [← hP] at HG HFT
        have HPE := lhd hP
        clear hP
        go_wp2_with fail
        refine HG.out.mono ?_
        rintro e w5 ⟨v5, rfl, ⟨D5, rfl, hD5, hN5⟩, hb5⟩
        have HN5 := lhd hN5
        clear hN5
        have HB5 := lhd (HBL.out.trans (hb5.mono HBL.out.size))
        have HB52 := lhd (HBL2.out.trans (hb5.mono HBL2.out.size))
        have HD5 := lhd hD5
        obtain ⟨ad, cd, hDe, -, -, -⟩ := hD5
        subst hDe
        clear hb5
        unfold pktV pktC
        go_upto_region 8 with ((with_reducible show wpList _ _ _ (⟨none, _, _, _, _, _⟩ :: _) _ _); refine zAf _ rfl 63 (.tmp 7) (.tmp 23) rfl rfl rfl (by kernel_rfl) (by rfl) (by kernel_rfl) ?_)
        obtain ⟨W6, hW6, hb6, hx6⟩ := zAz w5 P (.slice ad P.data.length cd)
        have HB6 := lhd (HB5.out.trans (hb6.mono HB5.out.size))
        have HB62 := lhd (HB52.out.trans (hb6.mono HB52.out.size))
        have HX6 := lhd hx6
        have HD6 := lhd (HD5.out.mono hb6)
        have HCK : Hid (∀ V : World, Below W6.heap.size W6 V → Calls Tryz.prog 45 #[.agg (pktC P (.slice ad P.data.length cd))] V fun e w' => e = .returned (.int .i64 (ckN P)) ∧ Below V.heap.size V w') := lhd fun V hV => yAO P _ (HD6.out.mono hV) HFT.out
        have HBO : Hid (RangedP P → FormP P → ∀ V : World, Below W6.heap.size W6 V → Calls Tryz.prog 46 #[.agg (pktC P (.slice ad P.data.length cd))] V fun e w' => ∃ v', e = .returned v' ∧ w'.ownsRow V.heap.size 5 1 v' (bodyP P).length ((bodyP P).map byteV) ∧ Below V.heap.size V w') := lhd fun h1 h2 V hV => yBA P _ (HD6.out.mono hV) h1 h2
        have HW6 := lhd hW6
        unfold pktC at HW6 HCK HBO
        rw [← HW6.out]
        clear hW6 hb6 hx6 HW6
        have hbd : Below W6.heap.size W6 W6.drew := (Below.refl _ _).drew
        have HBD := lhd hbd
        have HXD := lhd (HX6.out.mono hbd)
        have HCKD := lhd (HCK.out _ hbd)
        clear hbd
        by_cases hck : ckN P = 0
        · have e1 : (ckN P == 0) = true := by simp [hck]
          obtain ⟨hr, hf⟩ := ckN_zero.1 hck
          have HRP := lhd hr
          have HFP := lhd hf
          have HBO2 := lhd (HBO.out hr hf)
          have HSB : Hid (∀ V : World, Below W6.heap.size W6 V → (convert 31 9 (.slice a2 C.length c2)).run Tryz.prog V = .ok (.string (strN C)) V) := lhd fun V hV => HST.out V (HB62.out.trans (hV.mono HB62.out.size))
          have hs6 := HSB.out _ HBD.out
          obtain ⟨be, hbe⟩ : ∃ b : Bool, ((strN (bodyP P)).toList == (strN C).toList) = b := ⟨_, rfl⟩
          have HCMP : Hid (decide (bodyP P = C) = be) := lhd (by rw [← hbe, yAn (zET HFT.out.octs) HOB.out])
          clear hck hr hf
          generalize ckN P = n at *
          refine wp_region_any (by kernel_rfl) ?_
          change wpAny _ _ _ _ _ _ _ (World.drew _)
          (refine wpAny_ready (rs := [0]) (by kernel_rfl) (by simp) ?_; refine AllReady.cons rfl (fun K hK => ?_) AllReady.nil; refine yAk (by rfl) 63 (.tmp 7) rfl w5.heap.size rfl 63 (pktC P (.slice ad P.data.length cd)) (0, 0) _ HXD.out Tryz.underlying63 rfl (by kernel_rfl) ?_; unfold pktC; refine hK _ _ ?_; clear hK K; (try simp only [nrz, Act.put]))
          (refine wpAny_ready (rs := [1]) (by kernel_rfl) (by simp) ?_; refine AllReady.cons rfl (fun K hK => ?_) AllReady.nil; go_simp; go_at_call 45; (with_reducible refine HCKD.out.mono ?_); rintro e w7 ⟨rfl, hb7⟩; have HB7 := lhd (HBD.out.trans (hb7.mono HBD.out.size)); have HX7 := lhd (HX6.out.mono HB7.out); have hs7 := HSB.out _ HB7.out; have HBO7 := lhd (HBO2.out _ HB7.out); clear hb7; refine hK _ _ ?_; clear hK K; (try simp only [nrz, Act.put]))
          refine wpAny_take (i := 2) (v := ?_) rfl (by kernel_rfl) (by kernel_rfl) (by kernel_rfl) (fun _ _ _ h => h) (Or.inl ⟨by rfl, ?_⟩) ?_
          rotate_left
          focus (intro w; go_simp; first | done | with_reducible rfl)
          (try simp only [nrz, Act.put])
          refine wpAny_take (i := 3) (v := ?_) rfl (by kernel_rfl) (by kernel_rfl) (by kernel_rfl) (fun _ _ _ h => h) (Or.inl ⟨by rfl, ?_⟩) ?_
          rotate_left
          focus (intro w; go_simp; first | done | with_reducible rfl)
          (try simp only [nrz, Act.put])
          refine wpAny_take (i := 7) (v := ?_) rfl (by kernel_rfl) (by kernel_rfl) (by kernel_rfl) (fun _ _ _ h => h) (Or.inl ⟨by rfl, ?_⟩) ?_
          rotate_left
          focus (intro w; go_simp; first | done | with_reducible rfl)
          (try simp only [nrz, Act.put])
          refine wpAny_ready (rs := [4, 8]) (by kernel_rfl) (by simp) ?_; refine AllReady.cons rfl (fun K hK => ?_) (AllReady.cons rfl (fun K hK => ?_) AllReady.nil); rotate_left; (focus (go_simp; refine hK _ _ ?_; clear hK K; (try simp only [nrz, Act.put]); refine wpAny_ready (rs := [4]) (by kernel_rfl) (by simp) ?_; refine AllReady.cons rfl (fun K hK => ?_) AllReady.nil; refine yAk (by rfl) 63 (.tmp 7) rfl w5.heap.size rfl 63 (pktC P (.slice ad P.data.length cd)) (0, 0) _ HX7.out Tryz.underlying63 rfl (by kernel_rfl) ?_; unfold pktC; refine hK _ _ ?_; clear hK K; (try simp only [nrz, Act.put]); refine wpAny_ready (rs := [5]) (by kernel_rfl) (by simp) ?_; refine AllReady.cons rfl (fun K hK => ?_) AllReady.nil; go_simp; go_at_call 46; (with_reducible refine HBO7.out.mono ?_); rintro e w8 ⟨v8, rfl, ho8, hb8⟩; have HB8 := lhd (HB7.out.trans (hb8.mono HB7.out.size)); have hs8 := HSB.out _ HB8.out; have hv8 := (ListAt.of_owns (f := byteV) (l := bodyP P) ho8).str; obtain ⟨a8, c8, hve8, -, -⟩ := zAe ho8; subst hve8; clear ho8 hb8; refine hK _ _ ?_; clear hK K; (try simp only [nrz, Act.put]); refine wpAny_ready (rs := [6]) (by kernel_rfl) (by simp) ?_; refine AllReady.cons rfl (fun K hK => ?_) AllReady.nil; go_simp; refine hK _ _ ?_; clear hK K; (try simp only [nrz, Act.put]))); rotate_right; (focus (refine yAk (by rfl) 63 (.tmp 7) rfl w5.heap.size rfl 63 (pktC P (.slice ad P.data.length cd)) (0, 0) _ HX7.out Tryz.underlying63 rfl (by kernel_rfl) ?_; unfold pktC; refine hK _ _ ?_; clear hK K; (try simp only [nrz, Act.put]); refine wpAny_ready (rs := [5, 8]) (by kernel_rfl) (by simp) ?_; refine AllReady.cons rfl (fun K hK => ?_) (AllReady.cons rfl (fun K hK => ?_) AllReady.nil); rotate_left; (focus (go_simp; refine hK _ _ ?_; clear hK K; (try simp only [nrz, Act.put]); refine wpAny_ready (rs := [5]) (by kernel_rfl) (by simp) ?_; refine AllReady.cons rfl (fun K hK => ?_) AllReady.nil; go_simp; go_at_call 46; (with_reducible refine HBO7.out.mono ?_); rintro e w8 ⟨v8, rfl, ho8, hb8⟩; have HB8 := lhd (HB7.out.trans (hb8.mono HB7.out.size)); have hs8 := HSB.out _ HB8.out; have hv8 := (ListAt.of_owns (f := byteV) (l := bodyP P) ho8).str; obtain ⟨a8, c8, hve8, -, -⟩ := zAe ho8; subst hve8; clear ho8 hb8; refine hK _ _ ?_; clear hK K; (try simp only [nrz, Act.put]); refine wpAny_ready (rs := [6]) (by kernel_rfl) (by simp) ?_; refine AllReady.cons rfl (fun K hK => ?_) AllReady.nil; go_simp; refine hK _ _ ?_; clear hK K; (try simp only [nrz, Act.put]))); rotate_right; (focus (go_simp; go_at_call 46; (with_reducible refine HBO7.out.mono ?_); rintro e w8 ⟨v8, rfl, ho8, hb8⟩; have HB8 := lhd (HB7.out.trans (hb8.mono HB7.out.size)); have hs8 := HSB.out _ HB8.out; have hv8 := (ListAt.of_owns (f := byteV) (l := bodyP P) ho8).str; obtain ⟨a8, c8, hve8, -, -⟩ := zAe ho8; subst hve8; clear ho8 hb8; refine hK _ _ ?_; clear hK K; (try simp only [nrz, Act.put]); refine wpAny_ready (rs := [6, 8]) (by kernel_rfl) (by simp) ?_; refine AllReady.cons rfl (fun K hK => ?_) (AllReady.cons rfl (fun K hK => ?_) AllReady.nil); rotate_left; (focus (go_simp; refine hK _ _ ?_; clear hK K; (try simp only [nrz, Act.put]); refine wpAny_ready (rs := [6]) (by kernel_rfl) (by simp) ?_; refine AllReady.cons rfl (fun K hK => ?_) AllReady.nil; go_simp; refine hK _ _ ?_; clear hK K; (try simp only [nrz, Act.put]))); rotate_right; (focus (go_simp; refine hK _ _ ?_; clear hK K; (try simp only [nrz, Act.put]); refine wpAny_ready (rs := [8]) (by kernel_rfl) (by simp) ?_; refine AllReady.cons rfl (fun K hK => ?_) AllReady.nil; go_simp; refine hK _ _ ?_; clear hK K; (try simp only [nrz, Act.put])))))))
          all_goals
            refine wpAny_take (i := 9) (v := ?_) rfl (by kernel_rfl) (by kernel_rfl) (by kernel_rfl) (fun _ _ _ h => h) (Or.inl ⟨by rfl, ?_⟩) ?_
            rotate_left
            focus (intro w; go_simp; first | done | with_reducible rfl)
            (try simp only [nrz, Act.put])
            refine wpAny_take (i := 10) (v := ?_) rfl (by kernel_rfl) (by kernel_rfl) (by kernel_rfl) (fun _ _ _ h => h) (Or.inl ⟨by rfl, ?_⟩) ?_
            rotate_left
            focus (intro w; go_simp; first | done | with_reducible rfl)
            (try simp only [nrz, Act.put])
            refine wpAny_done (by kernel_rfl) ?_ _
            have HB9 := lhd (HB6.out.trans (HB8.out.mono HB6.out.size))
            have HB92 := lhd (HB62.out.trans (HB8.out.mono HB62.out.size))
            cases be with
            | true =>
              have HBE : Hid (bodyP P = C) := lhd (of_decide_eq_true HCMP.out)
              have HX8 := lhd (HX6.out.mono HB8.out)
              have HR8 := lhd (HX.out.mono HB9.out)
              have HD8 := lhd (HD6.out.mono HB8.out)
              go_wp2_with (first
                | ((with_reducible show wpList _ _ _ (⟨some 35, _, _, _, _, _⟩ :: _) _ _); refine wpList_load_row rfl 63 (.tmp 7) rfl w5.heap.size rfl 63 (pktC P (.slice ad P.data.length cd)) (0, 0) _ HX8.out Tryz.underlying63 rfl (by kernel_rfl) ?_)
                | ((with_reducible show wpList _ _ _ (⟨none, _, _, _, _, _⟩ :: _) _ _); refine wpList_store_row rfl 63 (.tmp 2) (.tmp 35) rfl w.heap.size (pktC P (.slice ad P.data.length cd)) rfl rfl 63 _ HR8.out (by kernel_rfl) (by rfl) (by kernel_rfl) ?_))
              refine bodyPost_ret (zGl rfl _ _ w.heap.size 63 _ (0, 0) _ rfl (setRow_heap _ _ _ _ _ _ HR8.out) Tryz.underlying63 rfl (by kernel_rfl)) rfl ?_
              exact ⟨_, 0, P, rfl, ⟨_, rfl, yAH HR8.out HD8.out _, fun b hb => Nat.le_trans (Nat.le_trans HB.out.size HBL.out.size) (HN5.out b hb)⟩, .inr (.inr (.inr ⟨h4, HWS.out, rfl, by rw [← HCC.out]; exact ⟨HRP.out, HFP.out, HBE.out⟩⟩)), below_setRow (HB.out.trans (HB9.out.mono HB.out.size)) (Nat.le_refl _) _⟩
            | false =>
              have HNI : Hid (¬ IsPkt C P) := lhd fun h => by
                have := HCMP.out
                rw [decide_eq_true h.2.2] at this
                cases this
              have HNN : Hid (∀ t : Nat, 1 ≤ t → t < k + 1 → ¬ IsPkt C (gsP C (t : Int))) := lhd fun t h1 h2 => by
                by_cases e : t = k
                · rw [e, ← HPE.out]; exact HNI.out
                · exact HNO.out t h1 (by omega)
              go_wp2
              go_roundw
              case rel => exact ⟨k + 1, by omega, by omega, by go_num, HNN.out, HB9.out, HB92.out⟩
              case measure => simp [intOf]; omega
        · have e1 : (ckN P == 0) = false := by simp [hck]
          have HNI : Hid (¬ IsPkt C P) := lhd fun h => hck (ckN_zero.2 ⟨h.1, h.2.1⟩)
          clear hck
          generalize ckN P = n at *
          refine wp_region_quiet (C := fun V => Below W6.heap.size W6 V) (by kernel_rfl) (by kernel_rfl) HBD.out ?_
          dsimp only
          refine BigFrame.wpQuiet_want rfl (fun K hK => ⟨.agg (pktC P (.slice ad P.data.length cd)), fun V hV => ?_, hK _ ?_⟩)
          · exact yAh 63 (.tmp 7) rfl w5.heap.size rfl 63 (pktC P (.slice ad P.data.length cd)) (0, 0) _ (HX6.out.mono hV) Tryz.underlying63 rfl (by kernel_rfl)
          clear hK K
          unfold pktC
          refine BigFrame.wpQuiet_want rfl (fun K hK => ⟨.int .i64 n, fun V hV => ?_, hK _ ?_⟩)
          · go_simp
            refine (HCK.out V hV).mono ?_
            rintro e w' ⟨rfl, hb⟩
            exact ⟨rfl, Below.trans hV (hb.mono (Below.size hV))⟩
          clear hK K
          repeat (first | go_big_quiet_step (fail) | (refine wpQuiet_step (fun K hK => ?_); go_simp; refine ⟨_, fun _ _ => rfl, hK _ ?_⟩; clear hK K))
          refine wpQuiet_nil ?_
          intro w8 hb8
          have HB8 := lhd (HB6.out.trans (Below.mono hb8 HB6.out.size))
          have HB82 := lhd (HB62.out.trans (Below.mono hb8 HB62.out.size))
          clear hb8
          have HNN : Hid (∀ t : Nat, 1 ≤ t → t < k + 1 → ¬ IsPkt C (gsP C (t : Int))) := lhd fun t h1 h2 => by
            by_cases e : t = k
            · rw [e, ← HPE.out]; exact HNI.out
            · exact HNO.out t h1 (by omega)
          go_wp2
          go_roundw
          case rel => exact ⟨k + 1, by omega, by omega, by go_num, HNN.out, HB8.out, HB82.out⟩
          case measure => simp [intOf]; omega
      · obtain rfl : k = 3 := by omega
        have HR8 := lhd (HX.out.mono HBL.out)
        have HNQ : Hid (∀ q, ¬ IsPkt (l.take (l.length - 4)) q) := lhd fun q hq => by
          rw [← HCC.out] at hq
          have h1 := hq.1.k1
          have h2 := hq.1.k2
          obtain ⟨t, ht⟩ : ∃ t : Nat, q.kind = (t : Int) := ⟨q.kind.toNat, by omega⟩
          have h3 := HNO.out t (by omega) (by omega)
          rw [← ht, hq.guess] at h3
          exact h3 hq
        go_wp2_with (first
          | ((with_reducible show wpList _ _ _ (⟨some 36, _, _, _, _, _⟩ :: _) _ _); refine zAk rfl 63 _ rfl (pktC pkt0 nilS) (by kernel_rfl) ?_)
          | ((with_reducible show wpList _ _ _ (⟨none, _, _, _, _, _⟩ :: _) _ _); refine wpList_store_row rfl 63 (.tmp 2) (.tmp 36) rfl w.heap.size (pktC pkt0 nilS) rfl rfl 63 _ HR8.out (by kernel_rfl) (by rfl) (by kernel_rfl) ?_))
        refine bodyPost_ret (zGl rfl _ _ w.heap.size 63 _ (0, 0) _ rfl (setRow_heap _ _ _ _ _ _ HR8.out) Tryz.underlying63 rfl (by kernel_rfl)) rfl ?_
        exact ⟨_, 2, pkt0, rfl, ⟨nilS, rfl, ListAt.nil _ _, fun b hb => by simp [Value.ownBlock] at hb⟩, .inr (.inr (.inl ⟨h4, HWS.out, HNQ.out, rfl, rfl⟩)), below_setRow (HB.out.trans (HBL.out.mono HB.out.size)) (Nat.le_refl _) _⟩
theorem yBB {w : World} (v : Value) (l : List Nat) (h : ListAt byteV w v l) (ho : Octets l) (hR : l.length ≤ 140737488351232) : Calls Tryz.prog 26 #[v] w fun e w' =>
    ∃ v' k p, e = .returned (.tuple #[v', .int .i64 k]) ∧ PktAt w' v' p ∧ GotP l k p ∧ Below w.heap.size w w' := by
  refine (yBt v l h ho hR).mono ?_
  rintro e w' ⟨v', k, p, rfl, ⟨D, rfl, hD, -⟩, hg, hb⟩
  exact ⟨_, k, p, rfl, ⟨D, rfl, hD⟩, hg, hb⟩
end

section
def isD (k : Nat) (p : Pkt) : Bool := decide (p.kind = 1 ∧ p.layer = (k : Int))
def cntD (k : Nat) (L : List Pkt) : Nat := L.countP (isD k)
theorem yAi (k : Nat) (L M : List Pkt) : cntD k (L ++ M) = cntD k L + cntD k M := List.countP_append ..
theorem yAs (s : Snd) (t k k' m j i e : Nat) : isD k' (sdP s t k m j i e) = decide (k = k') := by
  unfold isD sdP
  apply decide_eq_decide.2
  simp only [true_and]
  omega
theorem yAF (s : Snd) (t k' : Nat) : isD k' (annP s t) = false := by
  unfold isD annP
  exact decide_eq_false fun h => by simp at h
theorem yAJ (s : Snd) (t k k' : Nat) (l : List (Nat × Nat)) : cntD k' (datL s t k l) = if k = k' then l.length else 0 := by
  unfold cntD
  by_cases h : k = k'
  · rw [if_pos h, ← zBO s t k l, List.countP_eq_length]
    intro p hp
    obtain ⟨j, x, -, -, rfl⟩ := yAp hp
    rw [yAs]
    simpa using h
  · rw [if_neg h, List.countP_eq_zero]
    intro p hp
    obtain ⟨j, x, -, -, rfl⟩ := yAp hp
    rw [yAs]
    simpa using h
theorem yBx (s : Snd) (t k : Nat) (l : List (Nat × Nat)) (j : Nat) : (datL s t k l).take j = datL s t k (l.take j) := by
  apply List.ext_getElem?
  intro i
  unfold datL
  rw [List.getElem?_take]
  split
  · rw [List.getElem?_mapIdx, List.getElem?_mapIdx, List.getElem?_take, if_pos ‹_›]
  · rw [List.getElem?_mapIdx, List.getElem?_take, if_neg ‹_›]; rfl
theorem yAr (s : Snd) (t k' : Nat) : ∀ K, cntD k' (flatP s t K) = if k' < K then manyS s t k' else 0
  | 0 => by simp [flatP, cntD]
  | K + 1 => by
    rw [zBA, yAi, yAr s t k' K]
    have h : cntD k' (layP s t K) = if K = k' then manyS s t k' else 0 := by
      unfold layP
      rw [yAJ]
      split
      · rename_i e; subst e; rw [zCU]; rfl
      · rfl
    rw [h]
    by_cases h1 : k' < K
    · rw [if_pos h1, if_neg (by omega), if_pos (by omega), Nat.add_zero]
    · by_cases h2 : K = k'
      · rw [if_neg h1, if_pos h2, if_pos (by omega)]; omega
      · rw [if_neg h1, if_neg h2, if_neg (by omega)]
theorem yAI (s : Snd) (t : Nat) : ∀ (K i : Nat) (p : Pkt), (flatP s t K)[i]? = some p → ∃ k j x, k < K ∧ (stpL s k (rowS s t))[j]? = some x ∧ p = sdP s t k (manyS s t k) j x.2 x.1 ∧ cntD k ((flatP s t K).take i) = j
  | 0, i, p, h => by simp [flatP] at h
  | K + 1, i, p, h => by
    rw [zBA] at h ⊢
    by_cases hi : i < (flatP s t K).length
    · rw [List.getElem?_append_left hi] at h
      obtain ⟨k, j, x, h1, h2, h3, h4⟩ := yAI s t K i p h
      exact ⟨k, j, x, by omega, h2, h3, by rw [List.take_append_of_le_length (by omega)]; exact h4⟩
    · rw [List.getElem?_append_right (by omega)] at h
      obtain ⟨j, hj⟩ : ∃ j, j = i - (flatP s t K).length := ⟨_, rfl⟩
      rw [← hj] at h
      have hjl : j < (stpL s K (rowS s t)).length := by
        have := (List.getElem?_eq_some_iff.1 h).1
        unfold layP at this
        rw [zBO] at this
        exact this
      unfold layP at h
      rw [yBD s t K _ hjl] at h
      refine ⟨K, j, (stpL s K (rowS s t))[j], by omega, List.getElem?_eq_getElem hjl, (Option.some.inj h).symm, ?_⟩
      rw [List.take_append, List.take_of_length_le (by omega), ← hj, yAi, yAr, if_neg (by omega)]
      unfold layP
      rw [yBx, yAJ, if_pos rfl, List.length_take]
      omega
theorem yA4 (s : Snd) (t k' : Nat) : cntD k' (packL19 s t) = if k' < s.g then manyS s t k' else 0 := by
  show cntD k' (annL s t ++ flatP s t s.g) = _
  rw [yAi, yAr]
  have : cntD k' (annL s t) = 0 := by
    rcases zJj s t with ⟨-, h⟩ | ⟨-, h⟩
    · rw [h]; unfold cntD; rw [List.countP_singleton, yAF]; rfl
    · rw [h]; rfl
  rw [this, Nat.zero_add]
theorem yB4 (s : Snd) (t i : Nat) (p : Pkt) (h : (packL19 s t)[i]? = some p) : (i = 0 ∧ t % s.every = 0 ∧ p = annP s t) ∨
    ∃ k j x, k < s.g ∧ (stpL s k (rowS s t))[j]? = some x ∧ p = sdP s t k (manyS s t k) j x.2 x.1 ∧ cntD k ((packL19 s t).take i) = j := by
  rcases zJj s t with ⟨h0, hA⟩ | ⟨-, hA⟩
  · have e : packL19 s t = [annP s t] ++ flatP s t s.g := by unfold packL19; rw [hA]; rfl
    rw [e] at h ⊢
    cases i with
    | zero => left; exact ⟨rfl, h0, (Option.some.inj h).symm⟩
    | succ i =>
      right
      obtain ⟨k, j, x, h1, h2, h3, h4⟩ := yAI s t s.g i p h
      refine ⟨k, j, x, h1, h2, h3, ?_⟩
      show cntD k (annP s t :: (flatP s t s.g).take i) = j
      unfold cntD at h4 ⊢
      rw [List.countP_cons, yAF, h4]
      rfl
  · have e : packL19 s t = flatP s t s.g := by unfold packL19; rw [hA]; rfl
    rw [e] at h ⊢
    exact .inr (yAI s t s.g i p h)
theorem yAY (s : Snd) (t : Nat) : (packL19 s t).length ≤ 1 + s.g * 4096 ∨ ¬ SndOk s := by
  by_cases hs : SndOk s
  · left
    have : ∀ K, K ≤ s.g → (flatP s t K).length ≤ K * 4096 := by
      intro K
      induction K with
      | zero => intro _; simp [flatP]
      | succ K ih =>
        intro hK
        rw [zBA, List.length_append, zDd]
        have := ih (by omega)
        have := (hs.many (t := t) (show K < s.g by omega)).2
        omega
    have h1 := this s.g (Nat.le_refl _)
    show (annL s t ++ flatP s t s.g).length ≤ _
    rw [List.length_append]
    rcases zJj s t with ⟨-, h⟩ | ⟨-, h⟩ <;> rw [h] <;> simp <;> omega
  · exact .inr hs
end

section
open Go.RowKit Go.Extern.Stop Go.Stop Go.Extern
theorem yAW {p : Pkt} (h : Octets p.data) : Octets (putP p) := fun x hx => by
  rcases List.mem_append.1 hx with h1 | h1
  · exact zET h x h1
  · exact yAA _ x h1
theorem yA3 {p : Pkt} (h : ckN p = 0) : 22 ≤ (putP p).length ∧ (putP p).length ≤ 85 := by
  obtain ⟨h1, h2⟩ := ckN_zero.1 h
  have := (show IsPkt (bodyP p) p from ⟨h1, h2, rfl⟩).len
  unfold putP
  rw [List.length_append, zH2]
  omega
theorem yBc (p : Pkt) : WholeS (putP p) := yBf _
theorem yBr (p : Pkt) : (putP p).take ((putP p).length - 4) = bodyP p := by
  unfold putP
  rw [List.length_append, zH2, Nat.add_sub_cancel, List.take_left']
  rfl
theorem yBP {p : Pkt} (h : ckN p = 0) {k : Int} {q : Pkt} (hg : GotP (putP p) k q) : k = 0 ∧ q = p := by
  obtain ⟨h1, h2⟩ := ckN_zero.1 h
  have hl := yA3 h
  exact hg.same (.inr (.inr (.inr ⟨by omega, yBc p, rfl, by rw [yBr]; exact ⟨h1, h2, rfl⟩⟩)))
end

section
open Go.RowKit Go.Extern.Stop Go.Stop Go.Extern
theorem yAV {s : Snd} (h : SndOk s) {t k : Nat} {p : Pkt} (hp : p ∈ layP s t k) : Octets p.data := by
  obtain ⟨j, ⟨e, i⟩, hj, hx, rfl⟩ := yAp hp
  obtain ⟨-, hi⟩ := mem_stpL.1 hx
  exact (h.sym i e hi).2
theorem yAP {s : Snd} (h : SndOk s) {t : Nat} {p : Pkt} (hp : p ∈ packL19 s t) : Octets p.data := by
  rcases List.mem_append.1 hp with h1 | h1
  · unfold annL at h1
    split at h1
    · rw [List.mem_singleton.1 h1]; intro x hx; cases hx
    · cases h1
  · obtain ⟨k, -, hp'⟩ := List.mem_flatMap.1 h1
    exact yAV h hp'
end

section
def turnM (k m : Nat) : Cfg := ⟨k, (1 + m : Nat), 16, (1 + k % 3 : Nat), (2 + k % 5 : Nat), (2 + k % 4 : Nat), if 2 + k % 4 ≤ 1 + k % 2 then 1 else (1 + k % 2 : Nat), (1 + k % 7 : Nat)⟩
def turnC (k l : Nat) : Cfg := turnM k (l % 4)
def turnL (k : Nat) : List Nat := (List.range (2 + k % 6)).map fun i => (k + i) % 256
theorem yAf (k : Nat) : (turnL k).length = 2 + k % 6 := by simp [turnL]
theorem yAM (k : Nat) : Octets (turnL k) := fun x hx => by
  obtain ⟨i, -, rfl⟩ := List.mem_map.1 hx
  exact Nat.mod_lt _ (by decide)
theorem yBS : ∀ k, k < 256 → ∀ m, m < 4 → snN (turnM k m) ((2 + k % 6 : Nat) : Int) = 0 := by decide +kernel
theorem yB1 {k : Nat} (hk : k < 256) (l : Nat) : snN (turnC k l) ((turnL k).length : Nat) = 0 := by
  rw [yAf]
  exact yBS k hk _ (Nat.mod_lt _ (by decide))
theorem turnI {k : Nat} (hk : k < 256) (l : Nat) : CfgI (turnC k l) := by
  have hm : l % 4 < 4 := Nat.mod_lt _ (by decide)
  refine ⟨?_, ?_, ?_, ?_, ?_, ?_, ?_, ?_⟩
  all_goals simp only [turnC, turnM, I64]
  all_goals (try split)
  all_goals omega
theorem yBM {k l : Nat} {S : Snd} (hn : SndNum (turnC k l) ((turnL k).length : Nat) S) (hS : SndOk S) : S.ses = k ∧ S.g = 1 + l % 4 ∧ S.n = 16 ∧ S.b = 1 + k % 3 ∧ S.every = 1 + k % 7 ∧ S.size = 2 + k % 6 ∧ S.blocks ≤ 16 ∧ S.k = 2 + k % 5 := by
  have h1 := hn.ses
  have h2 := hn.g
  have h3 := hn.n
  have h4 := hn.b
  have h5 := hn.every
  have h6 := hn.size
  have h7 := hS.b16
  have h8 := hn.k
  rw [yAf] at h6
  simp only [turnC, turnM] at h1 h2 h3 h4 h5 h8
  omega
def skipN (x : Int) : Nat := (x % 18446744073709551616).toNat % 549755813888
theorem yBL (x : Int) : skipN x < 549755813888 := Nat.mod_lt _ (by decide)
end
end Go.Proofs.YtkfimdpcadbcpaaGreatDoor
