import Derived.Test.YtkhdjjcflbdegaaGreatDoorG23
import Derived.Test.YtkhdjjcflbdegaaGreatDoorG25
import Derived.Test.YtkhdjjcflbdegaaGreatDoorG24
import Derived.Test.YtkhdjjcflbdegaaGreatDoorG10
import Derived.Test.YtkhdjjcflbdegaaGreatDoorG16
import Derived.Maps.AppendAt
import Derived.StillTactics
import Derived.Test.YtkhdjjcflbdegaaGreatDoorG12

section
/- Package symbol: Pick. -/
namespace Go.Proofs.YtkhdjjcflbdegaaGreatDoor
open Go.RowKit Go.Extern.Stop Go.Stop Go.Extern

theorem MatOwn.none {α : Type} {f : α → Value} {te e : TypeId} {base : Nat} (w : World) : MatOwn f te base e w (.slice none 0 0) [] :=
  ⟨[], World.ownsRow_nil _ _ _ _, fun i => by simpa using ElAt.nil f te base _⟩
theorem colsTo_length_le2 (ws : List Nat) (n : Nat) : (colsTo ws n).length ≤ 64 * ws.length := by
  obtain ⟨B, -, hB⟩ := cols_split ws n
  have := colsOf_length_le ws
  rw [hB, List.length_append] at this
  omega

theorem Pick_bad {w : World} (vw v : Value) (ws : List Nat) (L : List (List Nat)) (n k : Int) (hvw : ListAt wordV w vw ws) (h : MatAt byteV w v L) (hn : I64 n) (hk : checkS L n = k) (hk0 : k ≠ 0) :
    Calls Tryz.prog 46 #[vw, v, .int .i64 n] w fun e w' => ∃ E, e = .returned (.tuple #[.slice none 0 0, E]) ∧ ErrAns k namePick w' E ∧ Below w.heap.size w w' := by
  have HM := Lib.hid h
  have HK := Lib.hid hk
  have HN := Lib.hid hn
  have HK0 := Lib.hid hk0
  have hb : (k != 0) = true := by simpa using hk0
  have hb2 : (k == 0) = false := by simpa using hk0
  obtain ⟨a, cap, rfl, -, -, -⟩ := h.opens
  obtain ⟨aw, cw, rfl, -, -, -⟩ := hvw
  clear h hk hn hk0
  go_enter Tryz.func46, Tryz.ntmps46
  go_wp2_with fail
  refine (wrong_any _ L n HM.out HN.out).mono ?_
  rintro e w1 ⟨rfl, rfl⟩
  rw [HK.out]
  go_wp2_with fail
  refine (New_ans namePick k HK0.out _).mono ?_
  rintro e w1 ⟨E1, rfl, he1, hb1⟩
  have HE1 := Lib.hid he1
  have HB1 := Lib.hid hb1
  obtain ⟨u, x, rfl⟩ := he1.some HK0.out
  clear he1 hb1
  go_wp2
  go_ret2
  exact ⟨_, rfl, HE1.out, HB1.out⟩

/-- What Pick says of symbols of m bytes. -/
def PickSays (ws : List Nat) (L : List (List Nat)) (m : Nat) (w w' : World) (e : Ending) : Prop :=
  if behindB ws L.length = true then ∃ E, e = .returned (.tuple #[.slice none 0 0, E]) ∧ ErrAns 2 namePick w' E ∧ Below w.heap.size w w'
  else ∃ v', e = .returned (.tuple #[v', .nilIface]) ∧ w'.ownsRow w.heap.size 5 1 v' m ((sumS m (pickTo ws L L.length)).map byteV) ∧ Below w.heap.size w w'

set_option maxRecDepth 1000000 in
set_option maxHeartbeats 4000000 in
theorem Pick_ok {w : World} (vw v : Value) (ws : List Nat) (L : List (List Nat)) (m : Nat) (hvw : ListAt wordV w vw ws) (hww : Word ws) (hwl : ws.length ≤ 100000) (h : MatAt byteV w v L) (h1 : 1 ≤ m) (h2 : m ≤ 64) (hl : ∀ r ∈ L, r.length = m) (hw : ∀ r ∈ L, Octets r) :
    Calls Tryz.prog 46 #[vw, v, .int .i64 (m : Int)] w fun e w' => PickSays ws L m w w' e := by
  obtain ⟨i0, hi0, hz0, hz1, hz2⟩ := info_parts info_sym
  have hlen := h.len
  have HM := Lib.hid h
  have HK := Lib.hid (checkS_ok h1 h2 hl)
  have HL := Lib.hid hl
  have HW := Lib.hid hw
  have HVW := Lib.hid hvw
  have HWW := Lib.hid hww
  obtain ⟨a, cap, rfl, hcap, -, hcell⟩ := h.opens
  obtain ⟨aw, cw, rfl, -, -, -⟩ := hvw
  have HC := Lib.hid hcell
  clear h hl hw hww hcell
  go_enter Tryz.func46, Tryz.ntmps46
  go_wp2_with fail
  refine (wrong_any _ L (m : Int) HM.out (by omega)).mono ?_
  rintro e w1 ⟨rfl, rfl⟩
  rw [HK.out]
  go_wp2_with fail
  go_loopw [9, 21] (fun o i wr => ∃ k : Nat, k ≤ L.length ∧ i = .int .i64 k ∧ MatOwn byteV 5 w.heap.size 37 wr o (pickTo ws L k) ∧ Below w.heap.size w wr) (fun _ i _ => L.length - (intOf i).toNat)
  case atStart => exact ⟨0, Nat.zero_le _, rfl, MatOwn.none w, Below.refl _ _⟩
  case round =>
    obtain ⟨k, hk, rfl, ⟨vs, hown, hel⟩, hbel⟩ := hrel
    have hsz := hbel.size
    by_cases hlt : k < L.length
    · obtain ⟨b, off, rfl, hcc⟩ := HC.out (by omega)
      obtain ⟨x, hx, hlx⟩ := hcc k hlt
      have hx1 := (hbel.cell (p := ⟨b, off + k, none⟩) (World.block_lt_of_cell? w _ hx)).trans hx
      have HEX : Hid (ElAt byteV 5 w.heap.size wr x (L.getD k [])) := Lib.hid (ElAt.old hlx hbel)
      have hrl := hlx.len
      obtain ⟨ax, cx, rfl, -, -, -⟩ := hlx
      have HQ := Lib.hid (pickTo_length ws L k)
      have hq := colsTo_length_le2 ws k
      have HO := Lib.hid hown
      rw [pickTo_length] at HO
      have HEL := Lib.hid hel
      have HB := Lib.hid hbel
      have HI : Hid (hasI ws (k : Int) = bitW ws k) := Lib.hid (by rw [hasI, if_neg (by omega)]; rfl)
      have HVW1 := Lib.hid (HVW.out.mono hbel)
      have HP := Lib.hid (@pickTo_in ws L k)
      have HPO := Lib.hid (@pickTo_out ws L k)
      clear hcc hx hown hel hbel
      generalize (L.getD k []).length = ll at *
      generalize (colsTo ws k).length = q at *
      cases hb : bitW ws k with
      | true =>
        have HS := Lib.hid (HP.out hb)
        have HI2 : Hid (hasI ws (k : Int) = true) := Lib.hid (HI.out.trans hb)
        clear hb HP HPO HI
        go_wp2_with fail
        refine (Has_any _ ws (k : Int) HVW1.out HWW.out (by omega)).mono ?_
        rintro e w1 ⟨rfl, rfl⟩
        rw [HI2.out]
        go_wp2_with (at_builtin; refine wpList_append_own _ rfl (.tmp 29) (.tmp 31) 46 rfl w.heap.size 37 i0 (.slice none 0 0) 1 24 Tryz.underlying46 hi0 hz0 hz1 hz2 rfl (by decide) u9 q vs rfl (HO.out.alloc _) ⟨wr.heap.size, 0, none⟩ 1 1 [.slice ax ll cx] rfl rfl (cell_one_new _ _ _) (fun x hx => by simp at hx; subst hx; rfl) (by unfold maxLen; omega) (by omega) (by simp; omega) ?_; intro v2 w2 hown1 hgrow1 _; have hb2 := Lib.hid ((HB.out.alloc hsz _).grown hgrow1 (by simp; omega) (fun k hk => (HO.out.lt k hk).1)); have ho2 : Hid (MatOwn byteV 5 w.heap.size 37 w2 v2 (pickTo ws L k ++ [L.getD k []])) := Lib.hid (MatOwn.app (by decide) (by rw [HQ.out]; exact HO.out) HEL.out HEX.out (by rw [HQ.out]; exact hown1) hgrow1); clear hown1 hgrow1)
        go_roundw
        case rel => exact ⟨k + 1, by omega, by go_num, by rw [HS.out]; exact ho2.out, hb2.out⟩
        case measure => simp [intOf]; omega
      | false =>
        have HS := Lib.hid (HPO.out hb)
        have HI2 : Hid (hasI ws (k : Int) = false) := Lib.hid (HI.out.trans hb)
        clear hb HP HPO HI
        go_wp2_with fail
        refine (Has_any _ ws (k : Int) HVW1.out HWW.out (by omega)).mono ?_
        rintro e w1 ⟨rfl, rfl⟩
        rw [HI2.out]
        go_wp2
        go_roundw
        case rel => exact ⟨k + 1, by omega, by go_num, by rw [HS.out]; exact ⟨vs, by rw [HQ.out]; exact HO.out, HEL.out⟩, HB.out⟩
        case measure => simp [intOf]; omega
    · have hk' : k = L.length := by omega
      have hM := MatOwn.at ⟨vs, hown, hel⟩
      rw [hk'] at hM
      have HPM := Lib.hid hM
      have HB := Lib.hid hbel
      have HPL := Lib.hid (fun r hr => HL.out r (pickTo_mem (ws := ws) (Nat.le_refl L.length) r hr))
      have HPW := Lib.hid (fun r hr => HW.out r (pickTo_mem (ws := ws) (Nat.le_refl L.length) r hr))
      have HVW1 := Lib.hid (HVW.out.mono hbel)
      have hpl := pickTo_length ws L L.length
      have hq := colsTo_length_le2 ws L.length
      have hq2 := colsOf_length_le ws
      have HBH : Hid (behindB ws L.length = decide ((colsTo ws L.length).length < (colsOf ws).length)) := Lib.hid rfl
      obtain ⟨pa, pc, rfl, -, -, -⟩ := hM.opens
      rw [hpl] at HPM ⊢
      have HPS : Hid (∀ e w', PickSays ws L m w w' e = if behindB ws L.length = true then ∃ E, e = .returned (.tuple #[.slice none 0 0, E]) ∧ ErrAns 2 namePick w' E ∧ Below w.heap.size w w'
        else ∃ v', e = .returned (.tuple #[v', .nilIface]) ∧ w'.ownsRow w.heap.size 5 1 v' m ((sumS m (pickTo ws L L.length)).map byteV) ∧ Below w.heap.size w w') := Lib.hid fun _ _ => rfl
      clear hown hel hbel hM hpl
      generalize pickTo ws L L.length = R at *
      generalize behindB ws L.length = bh at *
      generalize hcq : (colsTo ws L.length).length = q at *
      generalize hco : (colsOf ws).length = z at *
      have HCO := Lib.hid hco
      clear hcq hco
      by_cases hqz : q < z
      · have HBT : Hid (bh = true) := Lib.hid (by rw [HBH.out]; exact decide_eq_true hqz)
        have hqI : (q : Int) < (z : Int) := by omega
        clear HBH
        go_wp2_with fail
        refine (Count_any _ ws HVW1.out HWW.out hwl).mono ?_
        rintro e w1 ⟨rfl, rfl⟩
        rw [HCO.out]
        go_wp2_with fail
        refine (New_ans namePick 2 (by decide) _).mono ?_
        rintro e w1 ⟨E1, rfl, he1, hb1⟩
        have HE1 := Lib.hid he1
        have HB1 := Lib.hid (HB.out.trans (hb1.mono hsz))
        obtain ⟨u, x, rfl⟩ := he1.some (by decide)
        clear he1 hb1
        go_wp2
        go_ret2
        rw [HPS.out, if_pos HBT.out]
        exact ⟨_, rfl, HE1.out, HB1.out⟩
      · have HBT : Hid (¬ bh = true) := Lib.hid (by rw [HBH.out, decide_eq_false hqz]; decide)
        have hqI : (z : Int) ≤ (q : Int) := by omega
        clear HBH
        go_wp2_with fail
        refine (Count_any _ ws HVW1.out HWW.out hwl).mono ?_
        rintro e w1 ⟨rfl, rfl⟩
        rw [HCO.out]
        go_wp2_with fail
        refine (added_any _ R m HPM.out HPL.out HPW.out (by omega)).mono ?_
        rintro e w1 ⟨v1, rfl, ho1, hb1⟩
        have HO1 := Lib.hid (ownsRow_base ho1 hsz)
        have HB1 := Lib.hid (HB.out.trans (hb1.mono hsz))
        obtain ⟨ao, co, rfl, -, -⟩ := own_open ho1
        clear ho1 hb1
        go_wp2
        go_ret2
        rw [HPS.out, if_neg HBT.out]
        exact ⟨_, rfl, HO1.out, HB1.out⟩
end Go.Proofs.YtkhdjjcflbdegaaGreatDoor
end

section
/- Package elim: slices.Backward at equations: what a loop over it is handed. -/
namespace Go.Proofs.YtkhdjjcflbdegaaGreatDoor
open Go.RowKit Go.Extern.Stop Go.Stop Go.Extern

section
open Go.Shelf
attribute [local go_sem] Oper.semAt_some

set_option maxRecDepth 100000 in
set_option maxHeartbeats 2000000 in
theorem backE1_in (F : Fence) (n : Nat) (hf : F.fn 121) (hro : F.round = none) (_hn : 1 ≤ n) (l Bs S N : Nat) (rv sv : Nat → Value) (hN : N ≤ 100000) (J Jx : List (Fin N) → World → Prop)
    (hY : ∀ pre x W, J pre W → pre.length < N → YieldAt F (n - 1) Tryz.prog l #[.int .i64 (x.1 : Int), .agg #[rv x.1, sv x.1]] W fun e W' =>
      (e = .returned (.bool true) ∧ J (pre ++ [x]) W' ∧ KpB Bs S W W') ∨ (e = .returned (.bool false) ∧ Jx (pre ++ [x]) W'))
    (W : World) (hBs : W.cell? ⟨Bs, 0, none⟩ = some (.slice (some ⟨S, 0, none⟩) N N)) (hc : ∀ j, j < N → W.cell? ⟨S, j * 2, none⟩ = some (rv j) ∧ W.cell? ⟨S, j * 2 + 1, none⟩ = some (sv j)) (h0 : J [] W) :
    CallsIn F n Tryz.prog 121 #[.func (.yield l) #[] #[], .pointer (some ⟨Bs, 0, none⟩)] W fun e W' => (∃ v, e = .returned v) ∧
      ((∃ ys : List (Fin N), ys.map (·.1) = dnN N N ∧ J ys W') ∨ (∃ pre : List (Fin N), (∃ k, k ≤ N ∧ pre.map (·.1) = dnN N k) ∧ Jx pre W')) := by
  have HC := Lib.hid hc
  have HB := Lib.hid hBs
  clear hc
  refine callsIn_of_wp Tryz.func121 rfl hf ?_ hro
  simp only [Tryz.ntmps121, List.size_toArray, List.length_cons, List.length_nil, Nat.reduceAdd, Nat.reduceSub, Array.replicate_succ, Array.replicate_zero, List.push_toArray, List.append_toArray, List.nil_append, List.cons_append]
  gi_wp2
  gi_loopw [3] (fun i wr => ∃ (m : Nat) (z : Int) (pre : List (Fin N)), m ≤ N ∧ i = .int .i64 z ∧ z = (m : Int) - 1 ∧ pre.map (·.1) = dnN N (N - m) ∧ J pre wr ∧ KpB Bs S W wr) (fun i _ => (intOf i + 1).toNat)
  case atStart => exact ⟨N, _, [], Nat.le_refl _, rfl, by omega, by rw [Nat.sub_self]; rfl, h0, KpB.refl _ _ _⟩
  case round =>
    obtain ⟨m, z, pre, hm, rfl, hz, hpre, hJs, hk⟩ := hrel
    have HK := Lib.hid hk
    have HP := Lib.hid hpre
    have hpl : pre.length = N - m := by rw [← List.length_map (f := fun x : Fin N => x.1), hpre, dnN_length]
    cases m with
    | zero =>
      have hz1 : z = -1 := by omega
      subst hz1
      have HJ : Hid (J pre wr) := Lib.hid hJs
      clear hJs hk hz hBs hpre hpl
      gi_wp2
      go_end0
      exact ⟨⟨_, rfl⟩, .inl ⟨pre, HP.out, HJ.out⟩⟩
    | succ q =>
      have hz1 : z = (q : Int) := by omega
      subst hz1
      have eq : N - 1 - (N - (q + 1)) = q := by omega
      have hcb : wr.cell? ⟨Bs, 0, none⟩ = some (.slice (some ⟨S, 0, none⟩) N N) := (World.cell?_of_block (w := W) (a := ⟨Bs, 0, none⟩) hk.1).trans HB.out
      have hcs : wr.cell? ⟨S, q * 2, none⟩ = some (rv q) := (World.cell?_of_block (w := W) (a := ⟨S, q * 2, none⟩) hk.2).trans (HC.out q (by omega)).1
      have hcs2 : wr.cell? ⟨S, q * 2 + 1, none⟩ = some (sv q) := (World.cell?_of_block (w := W) (a := ⟨S, q * 2 + 1, none⟩) hk.2).trans (HC.out q (by omega)).2
      have hq : q < N := by omega
      have HP2 : Hid ((pre ++ [(⟨q, hq⟩ : Fin N)]).map (fun x : Fin N => x.1) = dnN N (N - q)) := Lib.hid (by
        have := dnN_succ N (N - (q + 1))
        rw [eq] at this
        rw [List.map_append, hpre, show N - q = N - (q + 1) + 1 by omega, this]
        rfl)
      obtain ⟨fn, tmps, assign, body, hy, hR⟩ := hY _ ⟨q, hq⟩ wr hJs (by omega)
      dsimp only at hy
      clear hJs hk hz eq hBs hpre hpl
      generalize rv q = vq at *
      generalize sv q = uq at *
      gi_wp2
      refine hR.mono ?_
      rintro e W3 (⟨rfl, hJ3, hk3⟩ | ⟨rfl, hJx3⟩)
      · have HJ3 := Lib.hid hJ3
        have HK3 := Lib.hid (HK.out.trans hk3)
        clear hJ3 hk3
        gi_wp2
        go_roundw
        case rel => exact ⟨q, (q : Int) - 1, _, by omega, rfl, rfl, HP2.out, HJ3.out, HK3.out⟩
        case measure => simp [intOf]
      · have HJ3 := Lib.hid hJx3
        clear hJx3
        gi_wp2
        refine bodyPost_ret (results_none rfl _ _ _) rfl ?_
        exact ⟨⟨_, rfl⟩, .inr ⟨_, ⟨N - q, by omega, HP2.out⟩, HJ3.out⟩⟩

set_option maxHeartbeats 1000000 in
theorem backE_in (F : Fence) (n : Nat) (hf : F.fn 85) (hro : F.round = none) (a : Option Addr) (len cap : Nat) (w : World) :
    CallsIn F n Tryz.prog 85 #[.slice a len cap] w fun e w' => e = .returned (.func (.func 121) #[] #[.pointer (some ⟨w.heap.size, 0, none⟩)]) ∧ w' = w.alloc (.cells #[.slice a len cap] 109) := by
  refine callsIn_of_wp Tryz.func85 rfl hf ?_ hro
  simp only [Tryz.ntmps85, List.size_toArray, List.length_cons, List.length_nil, Nat.reduceAdd, Nat.reduceSub, Array.replicate_succ, Array.replicate_zero, List.push_toArray, List.append_toArray, List.nil_append, List.cons_append]
  gi_wp2
  go_ret
  exact ⟨rfl, rfl⟩

theorem backE_stops (F : Fence) (n : Nat) (hf : F.fn 121) (hro : F.round = none) (hn : 1 ≤ n) (Bs S N : Nat) (rv sv : Nat → Value) (hN : N ≤ 100000) (w : World) (h1 : Bs < w.heap.size) (h2 : S < w.heap.size)
    (hBs : w.cell? ⟨Bs, 0, none⟩ = some (.slice (some ⟨S, 0, none⟩) N N)) (hc : ∀ j, j < N → w.cell? ⟨S, j * 2, none⟩ = some (rv j) ∧ w.cell? ⟨S, j * 2 + 1, none⟩ = some (sv j)) :
    SeqStopsK F n Tryz.prog 121 #[.pointer (some ⟨Bs, 0, none⟩)] (fun x : Fin N => #[Value.int .i64 (x.1 : Int), .agg #[rv x.1, sv x.1]]) (KpB Bs S) (fun ys => ys.map (·.1) = dnN N N) (fun pre => ∃ k, k ≤ N ∧ pre.map (·.1) = dnN N k) N w := fun l J Jx W hW _ _ hY h0 =>
  backE1_in F n hf hro hn l Bs S N rv sv hN J Jx hY W ((hW.cell (p := ⟨Bs, 0, none⟩) h1).trans hBs) (fun j hj => ⟨(hW.cell (p := ⟨S, j * 2, none⟩) h2).trans (hc j hj).1, (hW.cell (p := ⟨S, j * 2 + 1, none⟩) h2).trans (hc j hj).2⟩) h0
end
end Go.Proofs.YtkhdjjcflbdegaaGreatDoor
end

section
/- Package elim: (*System).All, where all is known. -/
namespace Go.Proofs.YtkhdjjcflbdegaaGreatDoor
open Go.RowKit Go.Extern.Stop Go.Stop Go.Extern

/-- 'make([]T, n)' where the walk is fenced: n zero elements are owned. -/
theorem wpListIn_make_all {F : Fence} {d : Nat} {P : Program} (w : World) {ops : Array Oper} {rest : List Oper} {o : Oper} {a : Act} {Q : Exit → Act → World → Prop}
    (hg : o.guard = none) (l c : Operand) (t : TypeId) (hop : o.op = Op.makeSlice t l c)
    (base : Nat) (e : TypeId) (i : TypeInfo) (z : Value) (size : Nat) (h1 : P.underlying t = some (.slice e)) (h2 : P.info? e = some i) (h3 : i.zero = some z) (h4 : i.size = size)
    (kl kc : IntKind) (L C : Int) (n : Nat) (hl : a.eval l = .int kl L) (hc : a.eval c = .int kc C) (hL : L = (n : Int)) (hC : C = (n : Int)) (b2 : i.bytes * n ≤ 281474976710656) (b3 : n ≤ maxLen) (b4 : base ≤ w.heap.size)
    (hK : ∀ w', w'.ownsRow base e size (.slice (some ⟨w.heap.size, 0, none⟩) n n) n (madeCells z.cells (n * size)).toList → w.grownBy w' none → wpListIn F d P ops Q rest (a.put o.dst (.slice (some ⟨w.heap.size, 0, none⟩) n n)) w') :
    wpListIn F d P ops Q (o :: rest) a w := by
  refine wpListIn_plain hg fun K hK' => ?_
  obtain ⟨w', hrun, r1, r2⟩ := run_make_full (P := P) w base t e i z size h1 h2 h3 h4 kl kc n b2 b3 b4
  subst hL
  subst hC
  unfold Oper.wpIn
  refine ⟨?_, ?_⟩
  · simp [Oper.about, hop]
  · rw [Oper.semAt_plain F _ _ (by rw [hop]; intro c hc'; cases hc')]
    simp [execOp, hop, hl, hc, hrun, Result.andThen]
    exact hK' _ _ (hK w' r1 r2)

/-- All's memory: its system, its boxes, the values that it has so far. -/
structure AllM (w W : World) (b kb n size gv bv : Nat) (f : Nat → Option Eqn) (rv sv : Nat → Value) (vals : List Value) : Prop where
  sys : SysM W b kb n size f rv sv false
  box : AllBox w W (sysP b)
  vbox : W.heap[bv]? = some (.cells #[.slice (some ⟨gv, 0, none⟩) n n] 46 (0, 0))
  own : W.ownsRow w.heap.size 37 1 (.slice (some ⟨gv, 0, none⟩) n n) n vals
section
variable {w W W' : World} {b kb n size gv bv : Nat} {f : Nat → Option Eqn} {rv sv : Nat → Value} {vals : List Value}
/-- Where all is known, an equation is kept at each place. -/
theorem SysM.full {cl : Bool} (h : SysM W b kb n size f rv sv cl) (hf : cntF f n = n) {c : Nat} (hc : c < n) : ∃ q ar cr ay cy, f c = some q ∧ rv c = .slice ar (kOf n) cr ∧ sv c = .slice ay size cy ∧
    OwnRow wordV 163 W (rv c) (kOf n) q.1 ∧ OwnRow byteV 5 W (sv c) size q.2 ∧ EqOk n size q ∧ Lead (bitW q.1) c := by
  obtain ⟨q, hq⟩ := Option.isSome_iff_exists.1 (cntF_full hf c hc)
  have hp := h.place c hc
  rw [hq] at hp
  obtain ⟨ar, cr, e1, -, -⟩ := own_open hp.1
  obtain ⟨ay, cy, e2, -, -⟩ := own_open hp.2.1
  exact ⟨q, ar, cr, ay, cy, hq, e1, e2, hp⟩
theorem AllM.mono (h : AllM w W b kb n size gv bv f rv sv vals) (hb : Below W.heap.size W W') : AllM w W' b kb n size gv bv f rv sv vals :=
  ⟨h.sys.mono hb, h.box.mono hb, (hb.block _ (Array.getElem?_eq_some_iff.1 h.vbox).1).trans h.vbox, own_same h.own fun g _ hg => hb.block g (Array.getElem?_eq_some_iff.1 hg).1⟩
theorem AllM.drew (h : AllM w W b kb n size gv bv f rv sv vals) : AllM w W.drew b kb n size gv bv f rv sv vals :=
  h.mono ((Below.refl _ _).drew)
theorem AllM.gheap (h : AllM w W b kb n size gv bv f rv sv vals) : ∃ cur, W.heap[gv]? = some (.cells cur 37 (0, 0)) := by
  rcases h.own.2 with ⟨e1, _⟩ | ⟨g, cap, cur, e1, _, h3, _⟩
  · cases e1
  · have : gv = g := by simpa [Value.ownBlock] using congrArg Value.ownBlock e1
    rw [this]; exact ⟨cur, h3⟩
theorem AllM.set (h : AllM w W b kb n size gv bv f rv sv vals) (c : Nat) (u : Value) : AllM w (W.setCell ⟨gv, c, none⟩ u) b kb n size gv bv f rv sv (vals.set c u) := by
  obtain ⟨cur, hg⟩ := h.gheap
  have hgl : w.heap.size ≤ gv := (h.own.lt gv rfl).1
  have key : ∀ {x : Nat} {cu : Array Value} {t : TypeId}, t ≠ 37 → W.heap[x]? = some (.cells cu t (0, 0)) → (W.setCell ⟨gv, c, none⟩ u).heap[x]? = W.heap[x]? := fun {x cu t} ht hx => Below.heap_setCell _ _ _ _ (by
    intro e1
    rw [show x = gv from e1, hg] at hx
    simp at hx
    exact ht hx.2.symm)
  obtain ⟨ck, hk⟩ := h.sys.kobj
  refine ⟨h.sys.same (key (by decide) h.sys.obj) (key (by decide) hk) fun g e cu he hx => key (by rcases he with rfl | rfl <;> decide) hx, ⟨h.box.bel.setCell (p := ⟨gv, c, none⟩) hgl _, by simpa [World.setCell] using h.box.lt, (key (by decide) h.box.h0).trans h.box.h0, (key (by decide) h.box.h1).trans h.box.h1, (key (by decide) h.box.h2).trans h.box.h2⟩, (key (by decide) h.vbox).trans h.vbox, (h.own.stored c u).1⟩
end

section
variable {w W W' : World} {b kb n size gv bv Bs : Nat} {f : Nat → Option Eqn} {rv sv : Nat → Value} {vals : List Value}
theorem AllM.keep (h : AllM w W b kb n size gv bv f rv sv vals) (hk : ∀ (x : Nat) (cu : Array Value) (t : TypeId) (z : Nat × Nat), W.heap[x]? = some (Obj.cells cu t z) → W'.heap[x]? = W.heap[x]?) (hb : Below w.heap.size w W') (hz : W.heap.size ≤ W'.heap.size) : AllM w W' b kb n size gv bv f rv sv vals := by
  obtain ⟨ck, hkk⟩ := h.sys.kobj
  exact ⟨h.sys.same (hk _ _ _ _ h.sys.obj) (hk _ _ _ _ hkk) fun g e cu _ hx => hk _ _ _ _ hx, ⟨hb, Nat.lt_of_lt_of_le h.box.lt hz, (hk _ _ _ _ h.box.h0).trans h.box.h0, (hk _ _ _ _ h.box.h1).trans h.box.h1, (hk _ _ _ _ h.box.h2).trans h.box.h2⟩,
    (hk _ _ _ _ h.vbox).trans h.vbox, own_same h.own fun g cu hx => hk _ _ _ _ hx⟩

/-- What holds between two rounds of All's loop backwards: the values, and, if the places came in their order, what they are. -/
def AllI (w : World) (b kb n size gv bv Bs : Nat) (f : Nat → Option Eqn) (rv sv : Nat → Value) (pre : List (Fin n)) (W : World) : Prop :=
  ∃ (vals : List Value) (V : List (List Nat)), AllM w W b kb n size gv bv f rv sv vals ∧ Boxed W Bs 109 (.slice (some ⟨kb, 0, none⟩) n n) ∧ vals.length = n ∧ V.length = n ∧
    (∀ c, c < n → OwnRow byteV 5 W (vals.getD c nilS) size (V.getD c []) ∧ Octets (V.getD c []) ∧ (V.getD c []).length = size) ∧
    (pre.map (·.1) = dnN n pre.length → ∀ c, c < n → (n - pre.length ≤ c → (∃ x, ValV n (stL (uF f n) n) c x ∧ V.getD c [] = symV n size x) ∧ ∀ g, (vals.getD c nilS).ownBlock = some g → w.heap.size ≤ g) ∧ (c < n - pre.length → ∀ q, f c = some q → V.getD c [] = q.2))
theorem AllI.keep {pre : List (Fin n)} (h : AllI w b kb n size gv bv Bs f rv sv pre W) (hk : ∀ (x : Nat) (cu : Array Value) (t : TypeId) (z : Nat × Nat), W.heap[x]? = some (Obj.cells cu t z) → W'.heap[x]? = W.heap[x]?) (hb : Below w.heap.size w W') (hz : W.heap.size ≤ W'.heap.size) : AllI w b kb n size gv bv Bs f rv sv pre W' := by
  obtain ⟨vals, V, h1, h2, h3, h4, h5, h6⟩ := h
  exact ⟨vals, V, h1.keep hk hb hz, (hk _ _ _ _ h2).trans h2, h3, h4, fun c hc => ⟨own_same (h5 c hc).1 fun g cu hx => hk _ _ _ _ hx, (h5 c hc).2⟩, h6⟩
theorem AllI.bel {pre : List (Fin n)} (h : AllI w b kb n size gv bv Bs f rv sv pre W) : Below w.heap.size w W := by obtain ⟨vals, V, h1, -⟩ := h; exact h1.box.bel
theorem keep_bare {X Y : World} {row : Option Nat} (hg : X.grownBy Y row) (hr : ∀ r, row = some r → ∃ o : Obj, X.heap[r]? = some o ∧ o.isCells = false) : ∀ (x : Nat) (cu : Array Value) (t : TypeId) (z : Nat × Nat), X.heap[x]? = some (Obj.cells cu t z) → Y.heap[x]? = X.heap[x]? :=
  fun x cu t z hx => hg.block x (Array.getElem?_eq_some_iff.1 hx).1 (fun e => by obtain ⟨o, ho, hc⟩ := hr x e.symm; rw [hx] at ho; cases ho; cases hc)
theorem AllI.from {m : Nat} (hm : w.heap.size ≤ m) : OwnFrom m (AllI w b kb n size gv bv Bs f rv sv) := by
  rintro pre X Y row h hg hr
  exact h.keep (keep_bare hg fun r e => (hr r e).2) (h.bel.grown hg h.bel.size (fun r e => Nat.le_trans hm (hr r e).1)) hg.size
theorem AllI.below {pre : List (Fin n)} (h : AllI w b kb n size gv bv Bs f rv sv pre W) (hb : Below W.heap.size W W') : AllI w b kb n size gv bv Bs f rv sv pre W' :=
  h.keep (fun x _ _ _ hx => hb.block x (Array.getElem?_eq_some_iff.1 hx).1) (h.bel.trans (hb.mono h.bel.size)) hb.size

theorem all_start (h : AllM w W b kb n size gv bv f rv sv (fillTo sv nilS n n)) (hB : Boxed W Bs 109 (.slice (some ⟨kb, 0, none⟩) n n)) (hf : cntF f n = n) : AllI w b kb n size gv bv Bs f rv sv [] W := by
  refine ⟨_, (List.range n).map fun c => match f c with | some q => q.2 | none => [], h, hB, fillTo_length _ _ _ _, by simp, fun c hc => ?_, fun _ c hc => ⟨fun h0 => by simp at h0; omega, fun _ q hq => ?_⟩⟩
  · obtain ⟨q, ar, cr, ay, cy, e0, e1, e2, e3, e4, e5, e6⟩ := h.sys.full hf hc
    have ev : (fillTo sv nilS n n).getD c nilS = sv c := by rw [fillTo_all, range_getD, if_pos hc]
    have eV : ((List.range n).map fun c => match f c with | some q => q.2 | none => []).getD c [] = q.2 := by
      rw [List.getD_eq_getElem?_getD, List.getElem?_map, List.getElem?_range hc]
      simp [e0]
    rw [ev, eV]
    exact ⟨e4, e5.2.2.2.2, e5.2.2.2.1⟩
  · rw [List.getD_eq_getElem?_getD, List.getElem?_map, List.getElem?_range hc]
    simp [hq]

/-- What is known is stored, and the rest is as it was. -/
theorem AllM.away (h : AllM w W b kb n size gv bv f rv sv vals) {x : Nat} {cu : Array Value} {t : TypeId} (ht : t ≠ 37) (hx : W.heap[x]? = some (Obj.cells cu t (0, 0))) (c : Nat) (u : Value) : (W.setCell ⟨gv, c, none⟩ u).heap[x]? = W.heap[x]? := by
  obtain ⟨cur, hg⟩ := h.gheap
  exact Below.heap_setCell _ _ _ _ (by
    intro e1
    rw [show x = gv from e1, hg] at hx
    simp at hx
    exact ht hx.2.symm)
theorem own_zero {e : TypeId} {v : Value} {k B : Nat} {xs : List Value} (h : W.ownsRow B e 1 v k xs) : W.ownsRow 0 e 1 v k xs := by
  refine ⟨h.1, ?_⟩
  rcases h.2 with h1 | ⟨g, cap, cur, h1, _, h3⟩
  · exact .inl h1
  · exact .inr ⟨g, cap, cur, h1, Nat.zero_le _, h3⟩
theorem all_step {pre : List (Fin n)} {c B : Nat} {q : Eqn} (hc : c < n) (hq : f c = some q) (hl : Lead (bitW q.1) c) (hqo : EqOk n size q) (h : AllM w W b kb n size gv bv f rv sv vals) (hBx : Boxed W Bs 109 (.slice (some ⟨kb, 0, none⟩) n n)) {V : List (List Nat)} (hvl : vals.length = n) (hVl : V.length = n)
    (hrow : ∀ c, c < n → OwnRow byteV 5 W (vals.getD c nilS) size (V.getD c []) ∧ Octets (V.getD c []) ∧ (V.getD c []).length = size)
    (hval : pre.map (·.1) = dnN n pre.length → ∀ c, c < n → (n - pre.length ≤ c → (∃ x, ValV n (stL (uF f n) n) c x ∧ V.getD c [] = symV n size x) ∧ ∀ g, (vals.getD c nilS).ownBlock = some g → w.heap.size ≤ g) ∧ (c < n - pre.length → ∀ q, f c = some q → V.getD c [] = q.2))
    (hlt : pre.length < n) {u : Value} (hb : Below W.heap.size W W') (hu : OwnRow byteV 5 W' u size (sumS size (pickTo q.1 V n))) (hub : ∀ g, u.ownBlock = some g → w.heap.size ≤ g) :
    KeepsFrom B W (W'.setCell ⟨gv, c, none⟩ u) ∧ KpB Bs kb W (W'.setCell ⟨gv, c, none⟩ u) ∧ AllI w b kb n size gv bv Bs f rv sv (pre ++ [⟨c, hc⟩]) (W'.setCell ⟨gv, c, none⟩ u) := by
  have h' := h.mono hb
  have hBx' : W'.heap[Bs]? = some (.cells #[.slice (some ⟨kb, 0, none⟩) n n] 109 (0, 0)) := (hb.block _ (Array.getElem?_eq_some_iff.1 (show W.heap[Bs]? = _ from hBx)).1).trans hBx
  obtain ⟨ck, hkk⟩ := h'.sys.kobj
  obtain ⟨cur, hg⟩ := h'.gheap
  have a1 := h'.away (by decide) hBx' c u
  have a2 := h'.away (by decide) hkk c u
  refine ⟨(KeepsOthers.trans ⟨hb.size, fun k o hk _ => (hb.block k (Array.getElem?_eq_some_iff.1 hk).1).trans hk⟩ (KeepsOthers.setCell _ _ _)).from _, ⟨a1.trans (hBx'.trans hBx.symm), a2.trans (hb.block _ h.sys.klt)⟩, vals.set c u, V.set c (sumS size (pickTo q.1 V n)), h'.set c u, a1.trans hBx', by simp [hvl], by simp [hVl], fun d hd => ?_, fun hg2 d hd => ?_⟩
  · rw [getD_set _ _ _ _ _ (by omega), getD_set _ _ _ _ _ (by omega)]
    by_cases e : d = c
    · rw [if_pos e, if_pos e]
      refine ⟨own_set hu hg (by decide) c u, sumS_octets (fun r hr => ?_) _, sumS_length _ _⟩
      obtain ⟨k, hk, rfl⟩ := List.mem_map.1 hr
      exact (hrow k (mem_colsTo.1 hk).1).2.1
    · rw [if_neg e, if_neg e]
      exact ⟨own_set (own_same (hrow d hd).1 fun g _ hx => hb.block g (Array.getElem?_eq_some_iff.1 hx).1) hg (by decide) c u, (hrow d hd).2⟩
  · obtain ⟨g1, g2⟩ := good_snoc hg2
    have g3 : c = n - 1 - pre.length := g2
    have hv := hval g1
    rw [List.length_append, getD_set V c d _ _ (by omega), getD_set vals c d _ _ (by omega)]
    refine ⟨fun h1 => ?_, fun h1 => ?_⟩
    · by_cases e : d = c
      · rw [if_pos e, if_pos e, e]
        exact ⟨back_val hqo hl hc (.mem (mem_stL.2 ⟨c, hc, uF_some hq⟩)) ((hv c hc).2 (by omega) q hq) fun k hk1 hk2 => ((hv k hk2).1 (by omega)).1, hub⟩
      · rw [if_neg e, if_neg e]
        simp at h1
        exact (hv d hd).1 (by omega)
    · simp at h1
      rw [if_neg (by omega)]
      exact (hv d hd).2 (by omega)

theorem behindB_no {ws : List Nat} {n : Nat} (h : ∀ c, n ≤ c → bitW ws c = false) : behindB ws n = false := by
  have h1 : colsTo ws (64 * ws.length + n) = colsOf ws := colsTo_gap ws (64 * ws.length) n fun c h _ => bitW_out ws c h
  have h2 : colsTo ws (n + 64 * ws.length) = colsTo ws n := colsTo_gap ws n (64 * ws.length) fun c hc _ => h c hc
  rw [Nat.add_comm] at h1
  unfold behindB
  rw [← h1, h2]
  simp
end

section
open Go.Shelf
attribute [local go_sem] Oper.semAt_some

set_option maxRecDepth 100000 in
set_option maxHeartbeats 4000000 in
theorem elAll_new {w : World} (b kb n size : Nat) (f : Nat → Option Eqn) (rv sv : Nat → Value) (hs : SysM w b kb n size f rv sv false) (hfull : cntF f n = n) :
    Calls Tryz.prog 45 #[sysP b] w fun e w' => ∃ v' V, e = .returned (.tuple #[v', .nilIface]) ∧ MatFresh byteV 5 w.heap.size 37 w' v' V ∧ V.length = n ∧ (∀ c, c < n → ∃ x, ValV n (stL (uF f n) n) c x ∧ V.getD c [] = symV n size x) ∧ Below w.heap.size w w' := by
  have h1 : (1 : Nat) ≤ 3 := by omega
  obtain ⟨w0, hw0, hbx⟩ := all_laid w (sysP b)
  have HBX := Lib.hid hbx
  have HW0 := Lib.hid hw0
  have hlt := hs.lt
  obtain ⟨k0, k1, k2, k3, k4⟩ := hs.cells
  rw [hfull] at k3
  have HS := Lib.hid hs
  have HC0 := Lib.hid ((hbx.bel.cell (p := ⟨b, 0, none⟩) hlt).trans k0)
  have HC1 := Lib.hid ((hbx.bel.cell (p := ⟨b, 1, none⟩) hlt).trans k1)
  have HC2 := Lib.hid ((hbx.bel.cell (p := ⟨b, 2, none⟩) hlt).trans k2)
  have HC3 := Lib.hid ((hbx.bel.cell (p := ⟨b, 3, none⟩) hlt).trans k3)
  have HC4 := Lib.hid ((hbx.bel.cell (p := ⟨b, 4, none⟩) hlt).trans k4)
  have hc0 := cell_of_heap (j := 0) (u := sysP b) hbx.h0 rfl
  have HF := Lib.hid hfull
  clear hw0 hbx hs k0 k1 k2 k3 k4 hfull
  refine (callsIn_wide (n := 3)).1 ?_
  refine callsIn_of_wp_marks Tryz.func45 rfl trivial ?_ rfl
  simp only [Tryz.ntmps45, List.size_toArray, List.length_cons, List.length_nil, Nat.reduceAdd, Nat.reduceSub, Array.replicate_succ, Array.replicate_zero, List.push_toArray, List.append_toArray, List.nil_append, List.cons_append]
  gi_wp2_with fail
  rw [← HW0.out]
  refine ⟨trivial, ?_⟩
  gi_at_call 65
  refine (callsIn_wide.2 (over_any b false HC4.out)).mono ?_
  rintro e w1 ⟨rfl, rfl⟩
  gi_wp2_with fail
  refine ⟨trivial, ?_⟩
  gi_at_call 84
  refine (callsIn_wide.2 (elWhole_any b n n false HC0.out HC3.out HC4.out)).mono ?_
  rintro e w1 ⟨rfl, hb1⟩
  have HBX1 := Lib.hid (HBX.out.mono hb1)
  have HS1 := Lib.hid (HS.out.mono (HBX1.out.bel.mono (Nat.le_refl _)))
  rw [decide_eq_true rfl]
  simp only [Bool.not_false, Bool.and_true]
  obtain ⟨k0, -, k2, -, -⟩ := HS1.out.cells
  have hc1 := cell_of_heap (j := 0) (u := sysP b) HBX1.out.h0 rfl
  have hn1 : 1 ≤ n := HS1.out.num.1
  have hn2 : n ≤ 4096 := HS1.out.num.2.1
  clear hc0 hb1
  obtain ⟨i0, hi, hz0, hz1, hz2⟩ := info_parts info_sym
  gi_wp2_with (gi_at_make; refine wpListIn_make_all _ rfl _ _ 46 rfl w.heap.size 37 i0 (.slice none 0 0) 1 Tryz.underlying46 hi hz0 hz1 .i64 .i64 _ _ n rfl rfl rfl rfl (by rw [hz2]; omega) (by unfold maxLen; omega) (by have := HBX1.out.lt; omega) ?_; intro w2 hown hgrow; have HO := Lib.hid hown; have HB := Lib.hid ((Below.refl w1.heap.size w1).grown hgrow (Nat.le_refl _) (fun k hk => by cases hk)); have HB3 : Hid (Below w1.heap.size w1 (w2.alloc (.cells #[.slice (some ⟨w1.heap.size, 0, none⟩) n n] 46))) := Lib.hid (HB.out.alloc HB.out.size _); have HBX2 := Lib.hid (HBX1.out.mono HB3.out); have HS2 := Lib.hid (HS1.out.mono HB3.out); have hc2 := cell_of_heap (j := 0) (u := sysP b) HBX2.out.h0 rfl; have k22 := HS2.out.cells.2.2.1; clear hown hgrow k0 k2 hc1)
  have HM2 : Hid (AllM w (w2.alloc (.cells #[.slice (some ⟨w1.heap.size, 0, none⟩) n n] 46)) b kb n size w1.heap.size w2.heap.size f rv sv (fillTo sv nilS n 0)) := Lib.hid ⟨HS2.out, HBX2.out, heap_alloc_new w2 _, by
    have := HO.out
    rw [Nat.mul_one] at this
    rw [fillTo_zero]
    exact own_same (toList_madeCells_one (.slice none 0 0) n ▸ this) fun g _ hg => Below.heap_alloc _ _ _ (Array.getElem?_eq_some_iff.1 hg).1⟩
  generalize w1.heap.size = gv at *
  generalize w2.heap.size = bv at *
  generalize (w2.alloc (.cells #[.slice (some ⟨gv, 0, none⟩) n n] 46)) = w3 at *
  clear HO HB HB3 HBX2 HS2 HC0 HC1 HC2 HC3 HC4 hc2 k22 HS1 HBX1
  gi_loopw [5, 6, 30] (fun _ _ i wr => ∃ k : Nat, k ≤ n ∧ i = .int .i64 k ∧ AllM w wr b kb n size gv bv f rv sv (fillTo sv nilS n k)) (fun _ _ i _ => n - (intOf i).toNat)
  case atStart => exact ⟨0, Nat.zero_le _, rfl, HM2.out⟩
  case round =>
    obtain ⟨k, hk, rfl, hM⟩ := hrel
    have HM := Lib.hid hM
    clear hM
    by_cases hlt : k < n
    · obtain ⟨hk1, hk2⟩ := HM.out.sys.kcell k hlt
      obtain ⟨q, ar, cr, ay, cy, -, e1, e2, -⟩ := HM.out.sys.full HF.out hlt
      have HSET := Lib.hid (fillTo_set sv nilS n k)
      rw [e1] at hk1
      rw [e2] at hk2 HSET
      clear e1 e2
      have HM3 : Hid (AllM w (wr.alloc (.cells #[.slice ar (kOf n) cr, .slice ay size cy] 120)) b kb n size gv bv f rv sv (fillTo sv nilS n k)) := Lib.hid (HM.out.mono ((Below.refl _ _).alloc (Nat.le_refl _) _))
      have hv1 := cell_of_heap (j := 0) (u := .slice (some ⟨gv, 0, none⟩) n n) HM3.out.vbox rfl
      have hg1 := HM3.out.own.cellAt k (by rw [Nat.mul_one]; exact hlt)
      have hg2 : (wr.alloc (.cells #[.slice ar (kOf n) cr, .slice ay size cy] 120)).frozen? ⟨gv, k, none⟩ = false := HM3.out.own.frozenAt k
      have hg3 : (fillTo sv nilS n k)[k]? = some nilS := by
        have hl : k < (fillTo sv nilS n k).length := by rw [fillTo_length]; exact hlt
        rw [List.getElem?_eq_getElem hl]
        simp [fillTo]
      rw [hg3] at hg1
      clear hg3
      gi_wp2
      exact ⟨⟨k + 1, by omega, by go_num, by rw [← HSET.out]; exact HM3.out.set k _⟩, by simp [intOf]; omega⟩
    · have ek : n = k := by omega
      subst ek
      have hc2 := cell_of_heap (j := 0) (u := sysP b) HM.out.box.h0 rfl
      have k22 := HM.out.sys.cells.2.2.1
      gi_wp2_with (refine ⟨trivial, ?_⟩; gi_at_call 85; refine (backE_in Fence.wide _ trivial rfl _ _ _ _).mono ?_; rintro e w' ⟨rfl, rfl⟩)
      have HMB : Hid (AllM w (wr.alloc (.cells #[.slice (some ⟨kb, 0, none⟩) n n] 109)) b kb n size gv bv f rv sv (fillTo sv nilS n n)) := Lib.hid (HM.out.mono ((Below.refl _ _).alloc (Nat.le_refl _) _))
      have HBX0 : Hid (Boxed (wr.alloc (.cells #[.slice (some ⟨kb, 0, none⟩) n n] 109)) wr.heap.size 109 (.slice (some ⟨kb, 0, none⟩) n n)) := Lib.hid (Boxed.new wr _ _)
      have hbs : wr.heap.size < (wr.alloc (.cells #[.slice (some ⟨kb, 0, none⟩) n n] 109)).heap.size := by rw [World.size_alloc]; omega
      clear hc2 k22
      generalize wr.heap.size = Bs at *
      generalize wr.alloc (.cells #[.slice (some ⟨kb, 0, none⟩) n n] 109) = W0 at *
      have hI0 : AllI w b kb n size gv bv Bs f rv sv [] W0 := all_start HMB.out HBX0.out HF.out
      have hWB : w.heap.size ≤ W0.heap.size := HMB.out.box.bel.size
      refine wpIn_rangeFunc_ownH (F := Fence.wide) rfl h1 (gf := 121) (lb := #[.pointer (some ⟨Bs, 0, none⟩)]) rfl trivial (enters_of Tryz.func121 (by kernel_rfl) rfl)
        (backE_stops Fence.wide (3 - 1) trivial rfl (by omega) Bs kb n rv sv (by omega) W0 hbs HMB.out.sys.klt HBX0.out.cell (fun j hj => HMB.out.sys.kcell j hj)) (fun h k => KpB.trans h k) (KpB.book hbs HMB.out.sys.klt) (Below.refl _ _) (fun _ => rfl)
        (AllI w b kb n size gv bv Bs f rv sv) (fun _ _ _ => False) (AllI.from hWB) (fun _ _ _ _ _ hs _ _ => hs) hI0
        (fun x a' W => ∃ eb : Nat, a' = { tmps := #[sysP b, .pointer (some ⟨w.heap.size, 0, none⟩), .pointer (some ⟨w.heap.size + 1, 0, none⟩), .pointer (some ⟨w.heap.size + 1 + 1, 0, none⟩), .pointer (some ⟨bv, 0, none⟩), u5, u6, .int .i64 (x.1 : Int), .pointer (some ⟨eb, 0, none⟩), undef, undef, .bool false, sysP b, .bool false, undef, .bool false, sysP b, .bool true, .bool false, undef, sysP b, .pointer (some ⟨b, 0, none⟩), .pointer (some ⟨b, 0, none⟩), .int .i64 (n : Int), .slice (some ⟨gv, 0, none⟩) n n, sysP b, .pointer (some ⟨b, 0, none⟩), .pointer (some ⟨b, 2, none⟩), .slice (some ⟨kb, 0, none⟩) n n, .int .i64 (n : Int), .int .i64 (n : Int), .bool false, u32, u33, u34, u35, u36, u37, u38, u39, u40, sysP b, .pointer (some ⟨b, 0, none⟩), .pointer (some ⟨b, 2, none⟩), .slice (some ⟨kb, 0, none⟩) n n, .func (.func 121) #[] #[.pointer (some ⟨Bs, 0, none⟩)], .int .i64 (x.1 : Int), .agg #[rv x.1, sv x.1], undef, undef, undef, undef, undef, undef, undef, undef, undef, undef, undef, undef, undef, undef, undef, undef, undef, undef, undef, undef], defers := [] } ∧ W.heap[eb]? = some (.cells #[rv x.1, sv x.1] 120 (0, 0)))
        (fun x a' _ X Y row h hg hr => by obtain ⟨eb, e1, e2⟩ := h; exact ⟨eb, e1, (keep_bare hg (fun r e => (hr r e).2) _ _ _ _ e2).trans e2⟩) ?assign ?body ?done ?stop
      case assign =>
        rintro l pre x W K hI hK
        have HI := Lib.hid hI
        obtain ⟨vals, V, hMW, hBW, -⟩ := hI
        obtain ⟨q, ar, cr, ay, cy, -, e1, e2, -⟩ := hMW.sys.full HF.out x.2
        have hBs := (Array.getElem?_eq_some_iff.1 (show W.heap[Bs]? = _ from hBW)).1
        have hkb := hMW.sys.klt
        rw [e1, e2] at hK ⊢
        have HK := Lib.hid hK
        clear hK e1 e2 hI0
        gi_wp2
        have hb : Below W.heap.size W (W.alloc (.cells #[.slice ar (kOf n) cr, .slice ay size cy] 120)) := (Below.refl _ _).alloc (Nat.le_refl _) _
        exact HK.out _ _ ((KeepsOthers.alloc _ _).from _) ⟨hb.block Bs hBs, hb.block kb hkb⟩ (HI.out.below hb) ⟨W.heap.size, rfl, heap_alloc_new _ _⟩
      case body =>
        rintro l pre ⟨c, hc⟩ a' W hl hr hI ⟨eb, rfl, heb⟩ hlt
        dsimp only at hlt heb ⊢
        obtain ⟨vals, V, hM, hBx, hvl, hVl, hrow, hval⟩ := hI
        obtain ⟨q, ar, cr, ay, cy, hq, e1, e2, e3, e4, e5, e6⟩ := hM.sys.full HF.out hc
        have HEND : Hid (∀ W' u, Below W.heap.size W W' → OwnRow byteV 5 W' u size (sumS size (pickTo q.1 V n)) → (∀ g, u.ownBlock = some g → w.heap.size ≤ g) → KeepsFrom W0.heap.size W (W'.setCell ⟨gv, c, none⟩ u) ∧ KpB Bs kb W (W'.setCell ⟨gv, c, none⟩ u) ∧ AllI w b kb n size gv bv Bs f rv sv (pre ++ [⟨c, hc⟩]) (W'.setCell ⟨gv, c, none⟩ u)) :=
          Lib.hid fun W' u hb hu hub => all_step hc hq e6 e5 hM hBx hvl hVl hrow hval hlt hb hu hub
        rw [e1, e2] at heb
        have hx1 := cell_of_heap (j := 0) (u := .slice ar (kOf n) cr) heb rfl
        have hv1 := cell_of_heap (j := 0) (u := .slice (some ⟨gv, 0, none⟩) n n) hM.vbox rfl
        have hs1 := cell_of_heap (j := 0) (u := sysP b) hM.box.h0 rfl
        have hk1 := hM.sys.cells.2.1
        have hd : Below W.heap.size W W.drew := (Below.refl _ _).drew
        have HR : Hid (ListAt wordV W.drew (.slice ar (kOf n) cr) q.1) := Lib.hid (by
          rw [e1] at e3
          exact (ListAt.of_owns e3).mono hd)
        have HMT : Hid (MatAt byteV W.drew (.slice (some ⟨gv, 0, none⟩) n n) V) := Lib.hid (by
          refine MatAt.mono ⟨vals, ListAt.of_owns (f := id) (by rw [List.map_id]; exact hM.own), by omega, fun i => ?_⟩ hd
          by_cases hi : i < n
          · exact ListAt.of_owns (hrow i hi).1
          · rw [List.getD_eq_getElem?_getD, List.getD_eq_getElem?_getD, List.getElem?_eq_none (by omega), List.getElem?_eq_none (by omega)]
            exact ListAt.nil _ _)
        have HPK : Hid (Calls Tryz.prog 46 #[.slice ar (kOf n) cr, .slice (some ⟨gv, 0, none⟩) n n, .int .i64 (size : Int)] W.drew fun e w' => ∃ au cu, e = .returned (.tuple #[.slice au size cu, .nilIface]) ∧ OwnRow byteV 5 w' (.slice au size cu) size (sumS size (pickTo q.1 V n)) ∧ (∀ g, (Value.slice au size cu).ownBlock = some g → w.heap.size ≤ g) ∧ Below W.heap.size W w') := Lib.hid (by
          have hlen : ∀ r ∈ V, r.length = size ∧ Octets r := fun r hr => by
            obtain ⟨i, hi, rfl⟩ := List.getElem_of_mem hr
            have := hrow i (by omega)
            have e : V.getD i [] = V[i] := by simp [hi]
            rw [e] at this
            exact ⟨this.2.2, this.2.1⟩
          refine (Pick_ok _ _ q.1 V size HR.out e5.2.1 (by rw [e5.1]; have := kOf_le hn2; omega) HMT.out hM.sys.num.2.2.1 hM.sys.num.2.2.2 (fun r hr => (hlen r hr).1) (fun r hr => (hlen r hr).2)).mono ?_
          intro e w' h
          unfold PickSays at h
          rw [hVl, behindB_no e5.2.2.1] at h
          simp only [Bool.false_eq_true, if_false] at h
          obtain ⟨v', rfl, h1, h2⟩ := h
          obtain ⟨au, cu, rfl, -, -⟩ := own_open h1
          exact ⟨au, cu, rfl, own_zero h1, fun g hg => Nat.le_trans hM.box.bel.size (Nat.le_trans hd.size (h1.lt g hg).1), hd.trans h2⟩)
        have HM := Lib.hid hM
        clear hI0 hM hBx hrow hval heb e3 e4 hd
        gi_wp2_with fail
        refine region_head_in 7 (by kernel_rfl) (by kernel_rfl) (by decide) (by kernel_rfl) (by kernel_rfl) (by kernel_rfl) (by kernel_rfl) ?_
        simp only [List.take_succ_cons, List.take_zero]
        repeat still_step
        refine wpStill_nil ?_
        change wpAnyIn (Fence.wide.inRound l) _ _ _ _ _ 6 #[true, true, true, true, true, true, true, false, false, false, false, false, false] _ _
        refine wpAnyIn_ready (rs := [7]) (by kernel_rfl) (by simp) ?_
        refine AllReadyIn.cons rfl (fun K hK => ?_) AllReadyIn.nil
        go_simp
        refine ⟨trivial, ?_⟩
        gi_at_call 46
        refine (CallsIn.inRound l (callsIn_wide.2 HPK.out)).mono ?_
        rintro e' w' ⟨au, cu, rfl, ho, hob, hb⟩
        have HE := Lib.hid (HEND.out w' _ hb ho hob)
        have HMW := Lib.hid (HM.out.mono hb)
        clear ho hob hb HPK HEND HM hx1 hv1 hs1 hk1
        dsimp only
        refine hK _ _ ?_
        clear hK K
        refine wpAnyIn_ready (rs := [8]) (by kernel_rfl) (by simp) ?_
        refine AllReadyIn.cons rfl (fun K hK => ?_) AllReadyIn.nil
        go_simp
        refine hK _ _ ?_
        clear hK K
        have hv1 := cell_of_heap (j := 0) (u := .slice (some ⟨gv, 0, none⟩) n n) HMW.out.vbox rfl
        have hg1 := HMW.out.own.cellAt c (by rw [Nat.mul_one]; exact hc)
        have hg2 : w'.frozen? ⟨gv, c, none⟩ = false := HMW.out.own.frozenAt c
        obtain ⟨y, hy⟩ : ∃ y, vals[c]? = some y := ⟨_, List.getElem?_eq_getElem (by have := HMW.out.own.1; omega)⟩
        rw [hy] at hg1
        clear hy
        refine wpAnyIn_ready (rs := [9, 10]) (by kernel_rfl) (by simp) ?_
        refine AllReadyIn.cons rfl (fun K hK => ?_) (AllReadyIn.cons rfl (fun K hK => ?_) AllReadyIn.nil)
        · go_simp
          refine hK _ _ ?_
          clear hK K
          refine wpAnyIn_ready (rs := [10, 11]) (by kernel_rfl) (by simp) ?_
          refine AllReadyIn.cons rfl (fun K hK => ?_) (AllReadyIn.cons rfl (fun K hK => ?_) AllReadyIn.nil)
          · go_simp
            refine hK _ _ ?_
            clear hK K
            refine wpAnyIn_ready (rs := [11]) (by kernel_rfl) (by simp) ?_
            refine AllReadyIn.cons rfl (fun K hK => ?_) AllReadyIn.nil
            · go_simp
              refine hK _ _ ?_
              clear hK K
              refine wpAnyIn_ready (rs := [12]) (by kernel_rfl) (by simp) ?_
              refine AllReadyIn.cons rfl (fun K hK => ?_) AllReadyIn.nil
              · go_simp
                refine hK _ _ ?_
                clear hK K
                refine wpAnyIn_done (by kernel_rfl) ?_ _
                gi_wp2
                exact HE.out
          · go_simp
            refine hK _ _ ?_
            clear hK K
            refine wpAnyIn_ready (rs := [10]) (by kernel_rfl) (by simp) ?_
            refine AllReadyIn.cons rfl (fun K hK => ?_) AllReadyIn.nil
            · go_simp
              refine hK _ _ ?_
              clear hK K
              refine wpAnyIn_ready (rs := [12]) (by kernel_rfl) (by simp) ?_
              refine AllReadyIn.cons rfl (fun K hK => ?_) AllReadyIn.nil
              · go_simp
                refine hK _ _ ?_
                clear hK K
                refine wpAnyIn_done (by kernel_rfl) ?_ _
                gi_wp2
                exact HE.out
        · go_simp
          refine hK _ _ ?_
          clear hK K
          refine wpAnyIn_ready (rs := [9]) (by kernel_rfl) (by simp) ?_
          refine AllReadyIn.cons rfl (fun K hK => ?_) AllReadyIn.nil
          · go_simp
            refine hK _ _ ?_
            clear hK K
            refine wpAnyIn_ready (rs := [11]) (by kernel_rfl) (by simp) ?_
            refine AllReadyIn.cons rfl (fun K hK => ?_) AllReadyIn.nil
            · go_simp
              refine hK _ _ ?_
              clear hK K
              refine wpAnyIn_ready (rs := [12]) (by kernel_rfl) (by simp) ?_
              refine AllReadyIn.cons rfl (fun K hK => ?_) AllReadyIn.nil
              · go_simp
                refine hK _ _ ?_
                clear hK K
                refine wpAnyIn_done (by kernel_rfl) ?_ _
                gi_wp2
                exact HE.out
      case done =>
        rintro D xs W hD hxs ⟨vals, V, hM, hBx, hvl, hVl, hrow, hval⟩ hK2
        have hxl : xs.length = n := by rw [← List.length_map (f := fun x : Fin n => x.1), hxs, dnN_length]
        rw [hxl] at hval
        have hall := hval hxs
        have HM3 := Lib.hid hM
        have hv1 := cell_of_heap (j := 0) (u := .slice (some ⟨gv, 0, none⟩) n n) hM.vbox rfl
        have hc1 := cell_of_heap (j := 0) (u := nilS) hM.box.h1 rfl
        have hc2 := cell_of_heap (j := 0) (u := .nilIface) hM.box.h2 rfl
        have hf1 := frozen_of_heap (j := 0) hM.box.h1
        have hf2 := frozen_of_heap (j := 0) hM.box.h2
        have HALL := Lib.hid hall
        have HROW := Lib.hid hrow
        have HK2 := Lib.hid hK2
        clear hI0 hM hBx hrow hval hall hK2 hxs
        gi_wp2
        obtain ⟨d1, d2, d3⟩ := HM3.out.box.done (v := .slice (some ⟨gv, 0, none⟩) n n) (e := .nilIface)
        have nD : ∀ (x : Nat) (cu : Array Value) (t : TypeId) (z : Nat × Nat), W.heap[x]? = some (Obj.cells cu t z) → x ≠ D := fun x cu t z hx e => by
          have := HK2.out
          rw [← e, hx] at this
          cases this
        have n1 := nD _ _ _ _ HM3.out.box.h1
        have n2 := nD _ _ _ _ HM3.out.box.h2
        have hKD : ((W.setCell ⟨w.heap.size + 1, 0, none⟩ (.slice (some ⟨gv, 0, none⟩) n n)).setCell ⟨w.heap.size + 1 + 1, 0, none⟩ .nilIface).heap[D]? = some (.deferred (some [])) := by
          rw [Below.heap_setCell _ _ _ _ (fun e => n2 e.symm), Below.heap_setCell _ _ _ _ (fun e => n1 e.symm)]
          exact HK2.out
        have hk : ∀ (x : Nat) (cu : Array Value) (t : TypeId) (z : Nat × Nat), t = 5 ∨ t = 37 → W.heap[x]? = some (Obj.cells cu t z) →
            (((W.setCell ⟨w.heap.size + 1, 0, none⟩ (.slice (some ⟨gv, 0, none⟩) n n)).setCell ⟨w.heap.size + 1 + 1, 0, none⟩ .nilIface).putObj D (.deferred none)).heap[x]? = W.heap[x]? := fun x cu t z ht hx => by
          rw [World.putObj_heap_other (nD _ _ _ _ hx), Below.heap_setCell _ _ _ _ (fun e => by
            rw [show x = w.heap.size + 1 + 1 from e, HM3.out.box.h2] at hx
            simp at hx
            rcases ht with rfl | rfl <;> simp at hx), Below.heap_setCell _ _ _ _ (fun e => by
            rw [show x = w.heap.size + 1 from e, HM3.out.box.h1] at hx
            simp at hx
            rcases ht with rfl | rfl <;> simp at hx)]
        have hbel : Below w.heap.size w (((W.setCell ⟨w.heap.size + 1, 0, none⟩ (.slice (some ⟨gv, 0, none⟩) n n)).setCell ⟨w.heap.size + 1 + 1, 0, none⟩ .nilIface).putObj D (.deferred none)) :=
          d3.grown (grownBy_putObj' _ D _) d3.size (fun r e => by cases e; omega)
        refine ⟨by simp, .inl ⟨_, _, rfl, run_takeDeferred hKD, ?_⟩⟩
        refine ⟨_, results_cell2 rfl _ _ _ _ _ _ rfl rfl agg_syms agg_error ((World.cell?_of_block (World.putObj_heap_other n1)).trans d1) ((World.cell?_of_block (World.putObj_heap_other n2)).trans d2), _, V, rfl, ⟨vals, by rw [hVl]; exact own_same HM3.out.own fun g cu hx => hk _ _ _ _ (.inr rfl) hx, fun i => ?_, fun x hx g hg => ?_⟩, hVl, fun c hc => ((HALL.out c hc).1 (by omega)).1, hbel⟩
        · by_cases hi : i < n
          · exact ElAt.own (own_same (HROW.out i hi).1 fun g cu hx => hk _ _ _ _ (.inl rfl) hx)
          · rw [List.getD_eq_getElem?_getD, List.getD_eq_getElem?_getD, List.getElem?_eq_none (by omega), List.getElem?_eq_none (by omega)]
            exact ElAt.nil _ _ _ _
        · obtain ⟨i, hi, rfl⟩ := List.getElem_of_mem hx
          refine ((HALL.out i (by omega)).1 (by omega)).2 g ?_
          rw [List.getD_eq_getElem?_getD, List.getElem?_eq_getElem hi]
          exact hg
      case stop =>
        rintro D c pre W _ _ h _
        exact h.elim
theorem elAll_some {w : World} (b kb n size : Nat) (f : Nat → Option Eqn) (rv sv : Nat → Value) (hs : SysM w b kb n size f rv sv false) (hfull : cntF f n = n) :
    Calls Tryz.prog 45 #[sysP b] w fun e w' => ∃ v' V, e = .returned (.tuple #[v', .nilIface]) ∧ MatAt byteV w' v' V ∧ V.length = n ∧ (∀ c, c < n → ∃ x, ValV n (stL (uF f n) n) c x ∧ V.getD c [] = symV n size x) ∧ Below w.heap.size w w' := by
  refine (elAll_new b kb n size f rv sv hs hfull).mono ?_
  rintro e w' ⟨v', V, h1, h2, h3⟩
  exact ⟨v', V, h1, h2.own.at, h3⟩
end
end Go.Proofs.YtkhdjjcflbdegaaGreatDoor
end

section
/- Package elim: (*System).All by what the system's equations span. -/
namespace Go.Proofs.YtkhdjjcflbdegaaGreatDoor
open Go.RowKit Go.Extern.Stop Go.Stop Go.Extern

theorem sysAll_over {w : World} (b n size : Nat) (K : List Vec) (r kb : Nat) (hS : Sys w b n size K r true kb) :
    Calls Tryz.prog 45 #[sysP b] w fun e w' => ∃ E, e = .returned (.tuple #[nilS, E]) ∧ ErrAns 7 nameElAll w' E ∧ Below w.heap.size w w' := by
  obtain ⟨f, rv, sv, k1, k2, k3⟩ := hS
  exact elAll_over b k1.cells.2.2.2.2
theorem sysAll_none {w : World} (b n size : Nat) (K : List Vec) (r kb : Nat) (hS : Sys w b n size K r false kb) (hr : r ≠ n) :
    Calls Tryz.prog 45 #[sysP b] w fun e w' => ∃ E, e = .returned (.tuple #[nilS, E]) ∧ ErrAns 4 nameElAll w' E ∧ Below w.heap.size w w' := by
  obtain ⟨f, rv, sv, k1, k2, rfl⟩ := hS
  obtain ⟨c0, c1, c2, c3, c4⟩ := k1.cells
  exact elAll_none b n (cntF f n) c0 c3 c4 hr
theorem sysAll_some {w : World} (b n size : Nat) (K : List Vec) (kb : Nat) (hS : Sys w b n size K n false kb) :
    Calls Tryz.prog 45 #[sysP b] w fun e w' => ∃ v' V, e = .returned (.tuple #[v', .nilIface]) ∧ MatAt byteV w' v' V ∧ V.length = n ∧ (∀ c, c < n → ∃ x, ValV n K c x ∧ V.getD c [] = symV n size x) ∧ Below w.heap.size w w' := by
  obtain ⟨f, rv, sv, k1, k2, k3⟩ := hS
  refine (elAll_some b kb n size f rv sv k1 k3).mono ?_
  rintro e w' ⟨v', V, h1, h2, h3, h4, h5⟩
  refine ⟨v', V, h1, h2, h3, fun c hc => ?_, h5⟩
  obtain ⟨x, hx, hV⟩ := h4 c hc
  exact ⟨x, hx.congr k2, hV⟩
theorem sysAll_new {w : World} (b n size : Nat) (K : List Vec) (kb : Nat) (hS : Sys w b n size K n false kb) :
    Calls Tryz.prog 45 #[sysP b] w fun e w' => ∃ v' V, e = .returned (.tuple #[v', .nilIface]) ∧ MatFresh byteV 5 w.heap.size 37 w' v' V ∧ V.length = n ∧ (∀ c, c < n → ∃ x, ValV n K c x ∧ V.getD c [] = symV n size x) ∧ Below w.heap.size w w' := by
  obtain ⟨f, rv, sv, k1, k2, k3⟩ := hS
  refine (elAll_new b kb n size f rv sv k1 k3).mono ?_
  rintro e w' ⟨v', V, h1, h2, h3, h4, h5⟩
  refine ⟨v', V, h1, h2, h3, fun c hc => ?_, h5⟩
  obtain ⟨x, hx, hV⟩ := h4 c hc
  exact ⟨x, hx.congr k2, hV⟩
end Go.Proofs.YtkhdjjcflbdegaaGreatDoor
end
