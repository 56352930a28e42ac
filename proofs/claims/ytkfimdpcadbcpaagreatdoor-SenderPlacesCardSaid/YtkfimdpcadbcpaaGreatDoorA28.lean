import Derived.Test.YtkfimdpcadbcpaaGreatDoorA27
import Derived.Test.YtkfimdpcadbcpaaGreatDoorA10
import Derived.Test.YtkfimdpcadbcpaaGreatDoorA12
import Derived.Test.YtkfimdpcadbcpaaGreatDoorA09
import Derived.Test.YtkfimdpcadbcpaaGreatDoorA01
set_option linter.unusedSimpArgs false
set_option linter.unusedVariables false
set_option maxRecDepth 1000000
set_option maxHeartbeats 8000000
namespace Go.Proofs.YtkfimdpcadbcpaaGreatDoor
section
open Go.RowKit Go.Extern.Stop Go.Stop Go.Extern
def planV (c : Cfg) (size : Int) : Value := .agg (plC size.toNat c.b.toNat (plN size.toNat c.b.toNat c.k.toNat) (plL size.toNat c.b.toNat c.k.toNat) (plQ size.toNat c.b.toNat c.k.toNat))
theorem zB2 (hCheck : CaCheckC) (hRate : StRateC) (c : Cfg) (size : Int) (hc : CfgI c) (hs : I64 size) :
    (snN c size ≠ 0 ∧ ∀ w : World, Calls Tryz.prog 30 #[.agg (cfgC c), .int .i64 size] w (NoPlan (snN c size) w)) ∨
    (snN c size = 0 ∧ ∀ w : World, Calls Tryz.prog 30 #[.agg (cfgC c), .int .i64 size] w fun e w' => e = .returned (.tuple #[planV c size, .nilIface]) ∧ Below w.heap.size w w') := by
  by_cases hR : rngB c = false
  · have e : snN c size = 1 := by
      unfold snN
      rw [if_pos]
      intro h
      have := of_decide_eq_false hR
      exact this ⟨h.1, h.2.1, h.2.2.1, h.2.2.2.1⟩
    rw [e]
    exact .inl ⟨by decide, fun w => zD6 c size hR⟩
  have hR1 : rngB c = true := by cases h : rngB c with
    | true => rfl
    | false => exact absurd h hR
  have hrg := of_decide_eq_true hR1
  by_cases hn : CaOk c.base c.burst 0
  rotate_left
  · have e : snN c size = 1 := by
      unfold snN
      rw [if_pos]
      intro h
      exact hn h.2.2.2.2
    rw [e]
    exact .inl ⟨by decide, fun w => zD0 hCheck c size hc hR1 hn⟩
  have hCR : CfgR c := ⟨hrg.1, hrg.2.1, hrg.2.2.1, hrg.2.2.2, hn⟩
  have e0 : snN c size = if planE size c.b c.k ≠ 0 then planE size c.b c.k else lastE c.g.toNat c.n.toNat (plN size.toNat c.b.toNat c.k.toNat) (plL size.toNat c.b.toNat c.k.toNat) (plQ size.toNat c.b.toNat c.k.toNat) := by
    unfold snN
    rw [if_neg (fun h => h hCR)]
  by_cases hO : OutOf size c.b c.k
  · have e : snN c size = 1 := by
      rw [e0]
      have : planE size c.b c.k = 1 := by unfold planE; rw [if_pos hO]
      rw [this]
      rfl
    rw [e]
    exact .inl ⟨by decide, fun w => zCC hCheck c size hc hR1 hn 1 (by decide) fun V => zIa _ _ _ hO⟩
  have hO' := hO
  unfold OutOf at hO'
  unfold I64 at hs
  obtain ⟨S, hS⟩ : ∃ S : Nat, size = S := ⟨size.toNat, by omega⟩
  obtain ⟨B, hB⟩ : ∃ B : Nat, c.b = B := ⟨c.b.toNat, by omega⟩
  obtain ⟨M, hM⟩ : ∃ M : Nat, c.k = M := ⟨c.k.toNat, by omega⟩
  obtain ⟨g, hg⟩ : ∃ g : Nat, c.g = g := ⟨c.g.toNat, by omega⟩
  obtain ⟨n, hnn⟩ : ∃ n : Nat, c.n = n := ⟨c.n.toNat, by omega⟩
  unfold planV
  rw [hS, hB, hM, hg, hnn] at e0
  rw [hS, hB, hM] at hO hO' ⊢
  simp only [Int.toNat_natCast] at e0 hO' ⊢
  rw [← hS]
  by_cases h16 : 16 < upN M (symT S B)
  · have e : snN c size = 3 := by
      rw [← hS] at e0
      rw [e0]
      have : planE size (B : Int) (M : Int) = 3 := by
        unfold planE
        rw [hS, if_neg hO]
        simp only [Int.toNat_natCast]
        rw [if_pos h16]
      rw [this]
      rfl
    rw [e]
    refine .inl ⟨by decide, fun w => zCC hCheck c size hc hR1 hn 3 (by decide) fun V => ?_⟩
    rw [hS, hB, hM]
    exact zIk S B M (by omega) (by omega) (by omega) (by omega) (by omega) h16
  have e1 : snN c size = lastE g n (plN S B M) (plL S B M) (plQ S B M) := by
    rw [← hS] at e0
    rw [e0]
    have : planE size (B : Int) (M : Int) = 0 := by
      unfold planE
      rw [hS, if_neg hO]
      simp only [Int.toNat_natCast]
      rw [if_neg h16]
    rw [this]
    rfl
  have hPO : PlanOf S B M (plN S B M) (plL S B M) (plQ S B M) := ⟨by omega, by omega, by omega, by omega, rfl, rfl, rfl⟩
  have hN16 : plN S B M ≤ 16 := by unfold plN; omega
  have hPl := hPO.ok hN16
  have hof : ∀ V : World, Calls Tryz.prog 53 #[.int .i64 size, .int .i64 c.b, .int .i64 c.k] V fun e w' => e = .returned (.tuple #[plV S B (plN S B M) (plL S B M) (plQ S B M), .nilIface]) ∧ Below V.heap.size V w' := fun V => by
    rw [hS, hB, hM]
    refine (zMs S B M (by omega) (by omega) (by omega) (by omega) (by omega) (by omega)).mono ?_
    rintro e w' ⟨n', l', q', rfl, hp, -, hb⟩
    obtain ⟨-, -, -, -, h1, h2, h3⟩ := hp
    subst h1
    subst h2 h3
    exact ⟨rfl, hb⟩
  have hsr : ∀ V : World, Calls Tryz.prog 54 #[.agg (plC S B (plN S B M) (plL S B M) (plQ S B M)), .int .i64 0] V fun e w' => e = .returned (.tuple #[.int .i64 ((cntP (plL S B M) (plQ S B M) 0 : Nat) : Int), .nilIface]) ∧ Below V.heap.size V w' := fun V => zFN hPl hPl.n1
  have hmo : cntP (plL S B M) (plQ S B M) 0 ≤ 128 := (hPl.cnt 0).2
  have hgk : (g : Int) - 1 = ((g - 1 : Nat) : Int) := by omega
  have hg8 : g ≤ 8 := by omega
  have hg1 : 1 ≤ g := by omega
  have hn2 : n ≤ 65536 := by omega
  rw [e1]
  unfold lastE
  by_cases hy : n % 2 ^ (g - 1) = 0
  rotate_left
  · rw [if_pos (.inl hy)]
    exact .inl ⟨by decide, fun w => zCY hCheck c size hc hR1 hn g n (g - 1) _ S B (plN S B M) (plL S B M) (plQ S B M) _ hg hnn hgk hg8 rfl hn2 hN16 hmo hof hsr hy⟩
  by_cases hlt : n < cntP (plL S B M) (plQ S B M) 0
  · rw [if_pos (.inr hlt)]
    exact .inl ⟨by decide, fun w => zC4 hCheck c size hc hR1 hn g n (g - 1) _ S B (plN S B M) (plL S B M) (plQ S B M) _ hg hnn hgk hg8 rfl hn2 hN16 hmo hof hsr hy hlt⟩
  rw [if_neg (by omega)]
  by_cases hl : 4096 < 2 * rateN (g - 1) * (n / 2 ^ (g - 1)) * plN S B M
  · rw [if_pos hl]
    exact .inl ⟨by decide, fun w => zDA hCheck c size hc hR1 hn g n (g - 1) _ S B (plN S B M) (plL S B M) (plQ S B M) _ hg hnn hgk hg8 rfl hn2 hN16 hmo hof hsr hRate _ rfl hg1 hy (by omega) hl⟩
  · rw [if_neg hl]
    refine .inr ⟨rfl, fun w => ?_⟩
    have h := zE5 (w := w) hCheck c size hc hR1 hn g n (g - 1) _ S B (plN S B M) (plL S B M) (plQ S B M) _ hg hnn hgk hg8 rfl hn2 hN16 hmo hof hsr hRate _ rfl hg1 hy (by omega) (by omega)
    rw [← hS] at h
    exact h
theorem zF1 (hCheck : CaCheckC) (hRate : StRateC) (w : World) (c : Cfg) (size : Int) (hc : CfgI c) (hs : I64 size) : Calls Tryz.prog 10 #[cfgV c, .int .i64 size] w fun e w' => ∃ E, e = .returned E ∧ ErrAns (snN c size) nameSnCheck w' E ∧ Below w.heap.size w w' := by
  obtain ⟨w0, hw0, hb0, hx0⟩ := zAM w c
  have HW0 := lhd hw0
  have HB0 := lhd hb0
  have HX0 := lhd hx0
  clear hw0 hb0 hx0
  unfold cfgV
  rcases zB2 hCheck hRate c size hc hs with ⟨hk, hP⟩ | ⟨hk, hP⟩
  · have HP := lhd hP
    have HK := lhd hk
    generalize snN c size = k at *
    clear hP hc hk
    go_enter Tryz.func10, Tryz.ntmps10
    unfold cfgC
    go_upto_region 1 with fail
    rw [← HW0.out]
    go_wp2_with ((with_reducible show wpList _ _ _ (⟨some 8, _, _, _, _, _⟩ :: _) _ _); refine wpList_load_row rfl 23 (.tmp 2) rfl w.heap.size rfl 23 (cfgC c) (0, 0) _ HX0.out Tryz.underlying23 rfl (by kernel_rfl) ?_)
    with_reducible refine (HP.out _).mono ?_
    rintro e w1 ⟨-, hb1, E, ls, rfl, hch⟩
    have HB1 := lhd (HB0.out.trans (hb1.mono HB0.out.size))
    obtain ⟨u, x, rfl⟩ := hch.iface
    have HCH := lhd hch
    clear hb1 hch
    unfold plV
    go_upto_region 2 with ((with_reducible show wpList _ _ _ (⟨none, _, _, _, _, _⟩ :: _) _ _); refine zAf (plC 0 0 0 0 0) rfl 37 (.tmp 5) (.tmp 11) rfl rfl rfl (by kernel_rfl) (by rfl) (by kernel_rfl) ?_)
    obtain ⟨w2, hw2⟩ : ∃ W, W = w1.alloc (.cells (plC 0 0 0 0 0) 37) := ⟨_, rfl⟩
    have hb2 : Below w1.heap.size w1 w2 := by rw [hw2]; exact (Below.refl _ _).alloc (Nat.le_refl _) _
    rw [← hw2]
    have HB2 := lhd (HB1.out.trans (hb2.mono HB1.out.size))
    have HCH2 := lhd (HCH.out.mono hb2)
    clear hw2 hb2
    go_wp2_with fail
    refine (zBC nameSnCheck k _ _ _ HCH2.out).mono ?_
    rintro e w3 ⟨E', rfl, hch, hb3⟩
    have HB3 := lhd (HB2.out.trans (hb3.mono HB2.out.size))
    have HCH3 := lhd hch
    obtain ⟨u', x', rfl⟩ := hch.iface
    clear hch hb3
    go_wp2
    go_ret
    exact ⟨_, rfl, .inr ⟨HK.out, _, HCH3.out⟩, HB3.out⟩
  · obtain ⟨q1, q2, q3, q4, q5, hq⟩ : ∃ a b c' d e : Int, planV c size = .agg (plC a b c' d e) := ⟨_, _, _, _, _, rfl⟩
    rw [hq] at hP
    have HP := lhd hP
    rw [hk]
    clear hP hc hk hq
    go_enter Tryz.func10, Tryz.ntmps10
    unfold cfgC
    go_upto_region 1 with fail
    rw [← HW0.out]
    go_wp2_with ((with_reducible show wpList _ _ _ (⟨some 8, _, _, _, _, _⟩ :: _) _ _); refine wpList_load_row rfl 23 (.tmp 2) rfl w.heap.size rfl 23 (cfgC c) (0, 0) _ HX0.out Tryz.underlying23 rfl (by kernel_rfl) ?_)
    with_reducible refine (HP.out _).mono ?_
    rintro e w1 ⟨rfl, hb1⟩
    have HB1 := lhd (HB0.out.trans (hb1.mono HB0.out.size))
    clear hb1
    go_upto_region 2 with ((with_reducible show wpList _ _ _ (⟨none, _, _, _, _, _⟩ :: _) _ _); refine zAf (plC q1 q2 q3 q4 q5) rfl 37 (.tmp 5) (.tmp 11) rfl rfl rfl (by kernel_rfl) (by rfl) (by kernel_rfl) ?_)
    obtain ⟨w2, hw2⟩ : ∃ W, W = w1.alloc (.cells (plC q1 q2 q3 q4 q5) 37) := ⟨_, rfl⟩
    have hb2 : Below w1.heap.size w1 w2 := by rw [hw2]; exact (Below.refl _ _).alloc (Nat.le_refl _) _
    rw [← hw2]
    have HB2 := lhd (HB1.out.trans (hb2.mono HB1.out.size))
    clear hw2 hb2
    go_wp2_with fail
    refine (zCe nameSnCheck _).mono ?_
    rintro e w3 ⟨rfl, rfl⟩
    go_wp2
    go_ret
    exact ⟨_, rfl, ErrAns.none _ _, HB2.out⟩
end

section
open Go.RowKit Go.Extern.Stop Go.Stop Go.Extern
theorem zIs : (Tryz.prog.info? 128).map (fun i => (i.zero, i.size, i.bytes)) = some (some (.pointer none), 1, 8) := by kernel_rfl
theorem EncAt.lower {w : World} {B B' g k s h l p sd size : Nat} {vm : Value} {V M : List (List Nat)} (e : EncAt w B g k s h l p sd size vm V M) (hB : B' ≤ B) : EncAt w B' g k s h l p sd size vm V M :=
  ⟨e.box, e.mid.below hB, Nat.le_trans hB e.ge, e.of, e.seed, e.k1, e.k2, e.z1, e.z2, e.tells, e.cons⟩
def EncOf (w : World) (lo b : Nat) (M : List (List Nat)) (v : Value) (f : Nat → List Nat) : Prop :=
  ∃ (gi s h l p sd : Nat) (vm : Value) (V : List (List Nat)), v = ptrAt gi ∧ EncAt w lo gi M.length s h l p sd b vm V M ∧ ∀ e, f e = symE l p sd b V e
theorem EncOf.far {w w' : World} {lo b : Nat} {M : List (List Nat)} {v : Value} {f : Nat → List Nat} (h : EncOf w lo b M v f) (hs : ∀ x, lo ≤ x → x < w.heap.size → w'.heap[x]? = w.heap[x]?) : EncOf w' lo b M v f := by
  obtain ⟨gi, s, h, l, p, sd, vm, V, e1, e2, e3⟩ := h
  exact ⟨gi, s, h, l, p, sd, vm, V, e1, e2.far hs, e3⟩
theorem EncOf.lower {w : World} {lo lo' b : Nat} {M : List (List Nat)} {v : Value} {f : Nat → List Nat} (h : EncOf w lo b M v f) (hb : lo' ≤ lo) : EncOf w lo' b M v f := by
  obtain ⟨gi, s, h, l, p, sd, vm, V, e1, e2, e3⟩ := h
  exact ⟨gi, s, h, l, p, sd, vm, V, e1, e2.lower hb, e3⟩
theorem EncOf.sym {w : World} {lo b : Nat} {M : List (List Nat)} {v : Value} {f : Nat → List Nat} (h : EncOf w lo b M v f) : SymF M.length b M f := by
  obtain ⟨gi, s, h, l, p, sd, vm, V, e1, e2, e3⟩ := h
  exact ⟨s, h, l, p, sd, V, e2.of, e2.seed, e2.tells, e2.cons, e3⟩
theorem zKR (cs : List Value) (u z : Value) (r : Nat) : ((cs ++ List.replicate (r + 1) z).toArray).setIfInBounds cs.length u = (cs ++ [u] ++ List.replicate r z).toArray := by
  simp [List.replicate_succ]
theorem zF5 {α : Type} {n : Nat} (d : α) {Q : Nat → α → Prop} (h : ∀ i, i < n → ∃ a, Q i a) : ∃ F : Nat → α, ∀ i, i < n → Q i (F i) := by
  classical
  refine ⟨fun i => if hi : i < n then Classical.choose (h i hi) else d, fun i hi => ?_⟩
  simp only [hi, dif_pos]
  exact Classical.choose_spec (h i hi)
theorem zJQ {w : World} {s b n l q : Nat} (hp : PlanOk s b n l q) (v : Value) (P : List Nat) (hv : ListAt byteV w v P) (hl : P.length = s) (ho : Octets P) (hD : DgTab w) (hT : Tab w) :
    Calls Tryz.prog 36 #[v, .agg (plC s b n l q)] w fun e w' => ∃ (L : Value) (F : Nat → Nat → List Nat) (vs : List Value), e = .returned (.tuple #[L, .nilIface]) ∧ Below w.heap.size w w' ∧
      w'.ownsRow w.heap.size 128 1 L n vs ∧ ∀ i, i < n → ∃ u, vs[i]? = some u ∧ EncOf w' w.heap.size b (cutF s b l q P i) u (F i) := by
  obtain ⟨i0, hi, hz0, hz1, hz2⟩ := info_parts zIs
  obtain ⟨w0, hw0, hb0, hx0⟩ := zAv w s b n l q
  have HW0 := lhd hw0
  have HB0 := lhd hb0
  have HX0 := lhd hx0
  have HCUT := lhd (zKo hp v P (hv.mono hb0) hl)
  have HDT : Hid (∀ V, Below w.heap.size w V → DgTab V ∧ Tab V) := lhd fun V hV => ⟨PairsAt.mono hD hV, hT.mono hV⟩
  have hn1 := hp.n1
  have hn16 := hp.n16
  have hb1 := hp.b1
  have hb64 := hp.b64
  have HROW : Hid (∀ i, i < n → (cutL s b n l q P).getD i [] = cutF s b l q P i) := lhd fun i hi => by
    unfold cutL
    simp [List.getD_eq_getElem?_getD, hi]
  have HLEN : Hid (∀ i, i < n → (cutF s b l q P i).length = cntP l q i ∧ 1 ≤ (cutF s b l q P i).length ∧ (cutF s b l q P i).length ≤ 128) := lhd fun i hi => by
    have h1 : (cutF s b l q P i).length = cntP l q i := by subst hl; exact zCT hp P hi
    have h2 := hp.cnt i
    omega
  have HRWS : Hid (∀ i, ∀ r ∈ cutF s b l q P i, r.length = b ∧ Octets r) := lhd fun i r hr => ⟨zJg P i r hr, zDB ho _ _ r (List.mem_of_mem_drop (List.mem_of_mem_take hr))⟩
  have HCL : Hid ((cutL s b n l q P).length = n) := lhd (by simp [cutL])
  generalize cutL s b n l q P = CL at *
  obtain ⟨av, cv, hvv, -⟩ := hv
  subst hvv
  unfold plV plC at HCUT
  clear hw0 hb0 hx0 hp hl ho hD hT
  go_enter Tryz.func36, Tryz.ntmps36
  unfold plC
  go_upto_region 1 with fail
  rw [← HW0.out]
  go_wp2_with ((with_reducible show wpList _ _ _ (⟨some 13, _, _, _, _, _⟩ :: _) _ _); refine wpList_load_row rfl 37 (.tmp 3) rfl w.heap.size rfl 37 _ (0, 0) _ HX0.out Tryz.underlying37 rfl (by kernel_rfl) ?_; unfold plC)
  with_reducible refine HCUT.out.mono ?_
  rintro e w1 ⟨gc, rfl, hcu, hb1'⟩
  have HB1 := lhd (HB0.out.trans (hb1'.mono HB0.out.size))
  have HX1 := lhd (HX0.out.mono hb1')
  obtain ⟨a1, c1, hce, -, -, hcc⟩ := hcu.at.opens
  rw [HCL.out] at hce hcc
  obtain ⟨rfl, rfl⟩ : some (⟨gc, 0, none⟩ : Addr) = a1 ∧ n = c1 := by simpa using hce
  obtain ⟨bc, oc, hbc, hcc⟩ := hcc hn1
  obtain ⟨rfl, rfl⟩ : gc = bc ∧ 0 = oc := by simpa using hbc
  have HCC : Hid (∀ j, j < n → ∃ (ax : Option Addr) (cx : Nat), w1.cell? ⟨gc, j, none⟩ = some (.slice ax (cutF s b l q P j).length cx) ∧ MatAt byteV w1 (.slice ax (cutF s b l q P j).length cx) (cutF s b l q P j)) := lhd fun j hj => by
    obtain ⟨x, h1, h2⟩ := hcc j hj
    rw [HROW.out j hj] at h2
    obtain ⟨ax, cx, rfl, -⟩ := h2.opens
    rw [Nat.zero_add] at h1
    exact ⟨ax, cx, h1, h2⟩
  have HZ1 := lhd HB1.out.size
  clear hcu hb1' hce hcc hbc
  go_wp2_with (at_make; refine wpList_make_full _ rfl _ _ 87 rfl w1.heap.size 128 i0 (.pointer none) 1 Tryz.underlying87 hi hz0 hz1 .i64 .i64 _ _ n rfl rfl rfl rfl (by rw [hz2]; omega) (by unfold maxLen; omega) (Nat.le_refl _) ?_; intro w2 hown0 hgrow0; have HO2 := lhd hown0; have HB12 := lhd ((Below.refl w1.heap.size w1).grown hgrow0 (Nat.le_refl _) (fun k hk => by cases hk)); clear hown0 hgrow0)
  obtain ⟨gr, hgr⟩ : ∃ gr, gr = w1.heap.size := ⟨_, rfl⟩
  have HGR := lhd hgr
  have HH2 : Hid (w2.heap[gr]? = some (.cells (([] : List Value) ++ List.replicate (n - 0) (Value.pointer none)).toArray 128 (0, 0))) := lhd (by
    have := (zAQ HO2.out).2.2
    rw [Nat.mul_one, show (Value.pointer none).cells = #[Value.pointer none] from rfl, toList_madeCells_one] at this
    rw [hgr, this]
    rfl)
  rw [← hgr]
  have HZ2 : Hid (gr < w2.heap.size) := lhd (Array.getElem?_eq_some_iff.1 HH2.out).1
  clear HO2 hgr
  go_loopw [7, 25] (fun er i wr => ∃ (j : Nat) (vs : List Value), j ≤ n ∧ er = .nilIface ∧ i = .int .i64 (j : Int) ∧ vs.length = j ∧ wr.heap[gr]? = some (.cells (vs ++ List.replicate (n - j) (Value.pointer none)).toArray 128 (0, 0)) ∧
      (∀ i, i < j → ∃ u f, vs[i]? = some u ∧ EncOf wr w2.heap.size b (cutF s b l q P i) u f) ∧ Below w1.heap.size w1 wr ∧ w2.heap.size ≤ wr.heap.size) (fun _ i _ => n - (intOf i).toNat)
  case atStart => exact ⟨0, [], Nat.zero_le _, rfl, rfl, rfl, HH2.out, fun i hi => by omega, HB12.out, Nat.le_refl _⟩
  case round =>
    obtain ⟨j, vs, hj, rfl, rfl, hvl, hrow, hens, hbel, hsz⟩ := hrel
    have HV := lhd hvl
    have HR := lhd hrow
    have HE := lhd hens
    have HB := lhd hbel
    have HS := lhd hsz
    by_cases hlt : j < n
    · have d1 : decide ((j : Int) < (n : Int)) = true := decide_eq_true (by omega)
      obtain ⟨ax, cx, hcx, hmx⟩ := HCC.out j hlt
      have cx' := (hbel.cell (p := ⟨gc, j, none⟩) (World.block_lt_of_cell? w1 _ hcx)).trans hcx
      have hbw := HB1.out.trans (hbel.mono HZ1.out)
      obtain ⟨-, hl1, hl2⟩ := HLEN.out j hlt
      have HNEW := lhd (zLI (w := wr) (cutF s b l q P j).length b _ (cutF s b l q P j) (hmx.mono hbel) rfl hl1 hl2 hb1 hb64 (HRWS.out j) (HDT.out wr hbw).1 (HDT.out wr hbw).2)
      have cb := (HX1.out.mono hbel).cells.2.1
      obtain ⟨r, hr⟩ : ∃ r, n - j = r + 1 := ⟨n - j - 1, by omega⟩
      have hr2 : n - (j + 1) = r := by omega
      have HRR := lhd hr
      have HR2 := lhd hr2
      clear hrow hens hbel hsz hcx hmx hbw hr hr2 hvl
      go_wp2_with fail
      with_reducible refine HNEW.out.mono ?_
      rintro e w4 ⟨ge, s', h', l', p', sd, vm, V, rfl, hen, hb4⟩
      have HEN := lhd hen
      have HB4 := lhd hb4
      have hr4 : w4.heap[gr]? = some (.cells (vs ++ List.replicate (n - j) (Value.pointer none)).toArray 128 (0, 0)) := (hb4.block gr (Array.getElem?_eq_some_iff.1 HR.out).1).trans HR.out
      have HR4 := lhd hr4
      have cr : w4.cell? ⟨gr, j, none⟩ = some (.pointer none) := zAa hr4 (by
        rw [HRR.out]
        have := HV.out
        simp [List.getElem?_append_right, this])
      have fr := zAb (j := j) hr4
      clear hen hb4 hr4 cb cx'
      go_wp2_with fail
      go_roundw
      case rel =>
        have hb14 := HB.out.trans (HB4.out.mono HB.out.size)
        have hzr := HZ2.out
        have hgg := HGR.out
        have hso : ∀ x, w2.heap.size ≤ x → (w4.setCell ⟨gr, j, none⟩ (.pointer (some ⟨ge, 0, none⟩))).heap[x]? = w4.heap[x]? := fun x hx => Below.heap_setCell _ _ _ x (by show x ≠ gr; omega)
        refine ⟨j + 1, vs ++ [.pointer (some ⟨ge, 0, none⟩)], by omega, rfl, by go_num, by rw [List.length_append, HV.out]; rfl, ?_, fun i hi => ?_, hb14.setCell (p := ⟨gr, j, none⟩) (by show w1.heap.size ≤ gr; omega) _, by have := HS.out; have := HB4.out.size; simp; omega⟩
        · rw [zAc HR4.out, HRR.out, HR2.out]
          have := zKR vs (.pointer (some ⟨ge, 0, none⟩)) (.pointer none) r
          rw [HV.out] at this
          rw [this]
        · by_cases hij : i < j
          · obtain ⟨u, f, h1, h2⟩ := HE.out i hij
            refine ⟨u, f, by rw [List.getElem?_append_left (by rw [HV.out]; exact hij)]; exact h1, (h2.far fun x _ hx => HB4.out.block x hx).far fun x hx _ => hso x hx⟩
          · obtain rfl : i = j := by omega
            refine ⟨.pointer (some ⟨ge, 0, none⟩), symE l' p' sd b V, by rw [List.getElem?_append_right (by rw [HV.out]; exact Nat.le_refl _), HV.out, Nat.sub_self]; rfl, ?_⟩
            have he : EncOf w4 w2.heap.size b (cutF s b l q P i) (.pointer (some ⟨ge, 0, none⟩)) (symE l' p' sd b V) := ⟨ge, s', h', l', p', sd, vm, V, rfl, HEN.out.lower HS.out, fun _ => rfl⟩
            exact he.far fun x hx _ => hso x hx
      case measure => simp [intOf]; omega
    · obtain rfl : j = n := by omega
      have d1 : decide ((j : Int) < (j : Int)) = false := decide_eq_false (by omega)
      clear hrow hens hbel hsz hvl
      go_wp2
      go_ret2
      obtain ⟨F, hF⟩ := zF5 (fun _ => []) (Q := fun i f => ∃ u, vs[i]? = some u ∧ EncOf wr w2.heap.size b (cutF s b l q P i) u f) fun i hi => by
        obtain ⟨u, f, h1, h2⟩ := HE.out i hi
        exact ⟨f, u, h1, h2⟩
      refine ⟨_, F, vs, rfl, HB1.out.trans (HB.out.mono HZ1.out), zAq (by have := HGR.out; have := HZ1.out; omega) HV.out (by unfold maxLen; omega) (by have := HR.out; rw [Nat.sub_self, List.replicate_zero, List.append_nil] at this; exact this), fun i hi => ?_⟩
      obtain ⟨u, h1, h2⟩ := hF i hi
      exact ⟨u, h1, h2.lower (by have := HGR.out; have := HZ1.out; have := HZ2.out; omega)⟩
theorem zJM (hCheck : CaCheckC) (hRate : StRateC) (w : World) (c : Cfg) (v : Value) (P : List Nat) (hc : CfgI c) (hv : ListAt byteV w v P) (ho : Octets P) (hD : DgTab w) (hT : Tab w) :
    Calls Tryz.prog 14 #[cfgV c, v] w fun e w' => Below w.heap.size w w' ∧
      ((snN c P.length ≠ 0 ∧ ∃ E, e = .returned (.tuple #[.pointer none, E]) ∧ ErrAns (snN c P.length) nameSnNew w' E) ∨
       (snN c P.length = 0 ∧ ∃ g S, e = .returned (.tuple #[ptrAt g, .nilIface]) ∧ SndOf c P S ∧ SdAt w' w.heap.size w'.heap.size g S 0)) := by
  obtain ⟨w0, hw0, hb0, hx0⟩ := zAM w c
  have HW0 := lhd hw0
  have HB0 := lhd hb0
  have HX0 := lhd hx0
  have hpl := hv.len
  have HV := lhd hv
  obtain ⟨av, cv, hvv, -⟩ := hv
  subst hvv
  clear hw0 hb0 hx0
  unfold cfgV
  rcases zB2 hCheck hRate c P.length hc ⟨by omega, by omega⟩ with ⟨hk, hP⟩ | ⟨hk, hP⟩
  · have HP := lhd hP
    have HK := lhd hk
    generalize snN c P.length = k at *
    clear hP hc hk ho hD hT
    go_enter Tryz.func14, Tryz.ntmps14
    unfold cfgC
    go_upto_region 1 with fail
    rw [← HW0.out]
    go_wp2_with ((with_reducible show wpList _ _ _ (⟨some 10, _, _, _, _, _⟩ :: _) _ _); refine wpList_load_row rfl 23 (.tmp 2) rfl w.heap.size rfl 23 (cfgC c) (0, 0) _ HX0.out Tryz.underlying23 rfl (by kernel_rfl) ?_)
    with_reducible refine (HP.out _).mono ?_
    rintro e w1 ⟨-, hb1, E, ls, rfl, hch⟩
    have HB1 := lhd (HB0.out.trans (hb1.mono HB0.out.size))
    obtain ⟨u, x, rfl⟩ := hch.iface
    have HCH := lhd hch
    clear hb1 hch
    unfold plV
    go_upto_region 2 with ((with_reducible show wpList _ _ _ (⟨none, _, _, _, _, _⟩ :: _) _ _); refine zAf (plC 0 0 0 0 0) rfl 37 (.tmp 6) (.tmp 14) rfl rfl rfl (by kernel_rfl) (by rfl) (by kernel_rfl) ?_)
    obtain ⟨w2, hw2⟩ : ∃ W, W = w1.alloc (.cells (plC 0 0 0 0 0) 37) := ⟨_, rfl⟩
    have hb2 : Below w1.heap.size w1 w2 := by rw [hw2]; exact (Below.refl _ _).alloc (Nat.le_refl _) _
    rw [← hw2]
    have HB2 := lhd (HB1.out.trans (hb2.mono HB1.out.size))
    have HCH2 := lhd (HCH.out.mono hb2)
    clear hw2 hb2
    go_wp2_with fail
    refine (zBC nameSnNew k _ _ _ HCH2.out).mono ?_
    rintro e w3 ⟨E', rfl, hch, hb3⟩
    have HB3 := lhd (HB2.out.trans (hb3.mono HB2.out.size))
    have HCH3 := lhd hch
    obtain ⟨u', x', rfl⟩ := hch.iface
    clear hch hb3
    go_wp2
    go_ret2
    exact ⟨HB3.out, .inl ⟨HK.out, _, rfl, .inr ⟨HK.out, _, HCH3.out⟩⟩⟩
  · obtain ⟨S0, hnum, hmk⟩ := zLy hk
    have hok0 := (hmk (fun _ _ => List.replicate S0.b 0) (fun i e _ => ⟨by simp, fun x hx => by rw [List.eq_of_mem_replicate hx]; decide⟩)).2
    have hpo : PlanOf S0.size S0.b S0.k S0.blocks S0.long S0.short := hok0.plan
    have hpk : PlanOk S0.size S0.b S0.blocks S0.long S0.short := hok0.pl
    have hsz : P.length = S0.size := by have := hnum.size; omega
    have hplv : planV c P.length = .agg (plC S0.size S0.b S0.blocks S0.long S0.short) := by
      unfold planV
      rw [hnum.b, hnum.k, hsz]
      simp only [Int.toNat_natCast]
      obtain ⟨-, -, -, -, h1, h2, h3⟩ := hpo
      unfold plN plL plQ plN
      rw [h2, h3, h1]
    rw [hplv] at hP
    have HP := lhd hP
    have HEN : Hid (∀ V, Below w.heap.size w V → Calls Tryz.prog 36 #[.slice av P.length cv, .agg (plC S0.size S0.b S0.blocks S0.long S0.short)] V fun e w' => ∃ (L : Value) (F : Nat → Nat → List Nat) (vs : List Value), e = .returned (.tuple #[L, .nilIface]) ∧ Below V.heap.size V w' ∧
      w'.ownsRow V.heap.size 128 1 L S0.blocks vs ∧ ∀ i, i < S0.blocks → ∃ u, vs[i]? = some u ∧ EncOf w' V.heap.size S0.b (cutF S0.size S0.b S0.long S0.short P i) u (F i)) := lhd fun V hV => zJQ hpk _ P (HV.out.mono hV) hsz ho (PairsAt.mono hD hV) (hT.mono hV)
    have HNUM := lhd hnum
    have HMK := lhd hmk
    have HCUTL : Hid (∀ i, i < S0.blocks → (cutF S0.size S0.b S0.long S0.short P i).length = cntP S0.long S0.short i) := lhd fun i hi => by rw [← hsz]; rw [← hsz] at hpk; exact zCT hpk P hi
    have HKZ := lhd hk
    obtain ⟨e1, e2, e3, e4, e5, e6, e7, e8, -⟩ := hnum
    obtain ⟨cses, cg, cn, cb, ck, cbase, cburst, cevery⟩ := c
    simp only at e1 e2 e3 e4 e5 e6 e7 e8
    subst e1 e2 e3 e4 e5 e6 e7 e8
    clear hP hc hk ho hD hT hok0 hpo hpk hplv hmk hpl hsz
    unfold plC at HP HEN
    go_enter Tryz.func14, Tryz.ntmps14
    unfold cfgC
    go_upto_region 1 with fail
    rw [← HW0.out]
    go_wp2_with ((with_reducible show wpList _ _ _ (⟨some 10, _, _, _, _, _⟩ :: _) _ _); refine wpList_load_row rfl 23 (.tmp 2) rfl w.heap.size rfl 23 _ (0, 0) _ HX0.out Tryz.underlying23 rfl (by kernel_rfl) ?_)
    with_reducible refine (HP.out _).mono ?_
    rintro e w1 ⟨rfl, hb1⟩
    have HB1 := lhd (HB0.out.trans (hb1.mono HB0.out.size))
    have HX1 := lhd (HX0.out.mono hb1)
    clear hb1
    go_upto_region 2 with ((with_reducible show wpList _ _ _ (⟨none, _, _, _, _, _⟩ :: _) _ _); refine zAf (plC S0.size S0.b S0.blocks S0.long S0.short) rfl 37 (.tmp 6) (.tmp 14) rfl rfl rfl (by kernel_rfl) (by rfl) (by kernel_rfl) ?_)
    obtain ⟨w2, hw2⟩ : ∃ W, W = w1.alloc (.cells (plC S0.size S0.b S0.blocks S0.long S0.short) 37) := ⟨_, rfl⟩
    have hb2 : Below w1.heap.size w1 w2 := by rw [hw2]; exact (Below.refl _ _).alloc (Nat.le_refl _) _
    rw [← hw2]
    obtain ⟨gq, hgq⟩ : ∃ gq, gq = w1.heap.size := ⟨_, rfl⟩
    have HQ2 : Hid (PlBox w2 gq S0.size S0.b S0.blocks S0.long S0.short) := lhd (by rw [hw2, hgq]; exact heap_alloc_new _ _)
    rw [← hgq]
    have HB2 := lhd (HB1.out.trans (hb2.mono HB1.out.size))
    have HX2 := lhd (HX1.out.mono hb2)
    clear hw2 hb2 hgq
    go_wp2_with ((with_reducible show wpList _ _ _ (⟨some 22, _, _, _, _, _⟩ :: _) _ _); refine wpList_load_row rfl 37 (.tmp 6) rfl gq rfl 37 _ (0, 0) _ HQ2.out Tryz.underlying37 rfl (by kernel_rfl) ?_; unfold plC)
    with_reducible refine (HEN.out _ HB2.out).mono ?_
    rintro e w3 ⟨L, F, vs, rfl, hb3, hov, hens⟩
    have HB3 := lhd (HB2.out.trans (hb3.mono HB2.out.size))
    have HX3 := lhd (HX2.out.mono hb3)
    have HQ3 := lhd (HQ2.out.mono hb3)
    have HOV := lhd (zAd hov HB2.out.size)
    have HES := lhd hens
    have HZ2 := lhd HB2.out.size
    obtain ⟨aL, cL, hvL, -, -⟩ := zAe hov
    subst hvL
    clear hb3 hov hens
    go_wp2_with (first
      | ((with_reducible show wpList _ _ _ (⟨some 30, _, _, _, _, _⟩ :: _) _ _); refine wpList_load_row rfl 23 (.tmp 2) rfl w.heap.size rfl 23 _ (0, 0) _ HX3.out Tryz.underlying23 rfl (by kernel_rfl) ?_)
      | ((with_reducible show wpList _ _ _ (⟨some 31, _, _, _, _, _⟩ :: _) _ _); refine wpList_load_row rfl 37 (.tmp 6) rfl gq rfl 37 _ (0, 0) _ HQ3.out Tryz.underlying37 rfl (by kernel_rfl) ?_)
      | ((with_reducible show wpList _ _ _ (⟨some 33, _, _, _, _, _⟩ :: _) _ _); refine zAk rfl 91 _ rfl (rsC S0 (.slice aL S0.blocks cL) 0) (by kernel_rfl) ?_; unfold rsC))
    go_ret2
    have hb4 : Below w3.heap.size w3 (w3.alloc (.cells (rsC S0 (.slice aL S0.blocks cL) 0) 91)) := (Below.refl _ _).alloc (Nat.le_refl _) _
    have hsym : ∀ i e, i < S0.blocks → (F i e).length = S0.b ∧ Octets (F i e) := fun i e hi => by
      obtain ⟨u, -, h2⟩ := HES.out i hi
      exact h2.sym.length e
    obtain ⟨hn', hok'⟩ := HMK.out F hsym
    refine ⟨HB3.out.trans (hb4.mono HB3.out.size), .inr ⟨HKZ.out, w3.heap.size, { S0 with sym := F }, rfl, ⟨hn', hok', fun i hi => ?_⟩, hok', by decide, HB3.out.size, by rw [World.size_alloc]; exact Nat.lt_succ_self _, Nat.le_refl _, .slice aL S0.blocks cL, w3, Nat.le_refl _, ⟨vs, HOV.out, fun i hi => ?_⟩, fun x _ hx => hb4.block x hx, heap_alloc_new _ _⟩⟩
    · obtain ⟨u, -, h2⟩ := HES.out i hi
      have := h2.sym
      rw [HCUTL.out i hi] at this
      exact this
    · obtain ⟨u, h1, h2⟩ := HES.out i hi
      obtain ⟨gi, s', h', l', p', sd, vm, V, e1, e2, e3⟩ := h2.lower HZ2.out
      exact ⟨gi, _, s', h', l', p', sd, vm, V, _, by rw [h1, e1], e2, e3⟩
end
end Go.Proofs.YtkfimdpcadbcpaaGreatDoor
