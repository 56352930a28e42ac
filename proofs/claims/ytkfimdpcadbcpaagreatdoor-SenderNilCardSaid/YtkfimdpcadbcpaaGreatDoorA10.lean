import Derived.Test.YtkfimdpcadbcpaaGreatDoorA09
import Derived.OwnWalk
import Derived.WalkSpells
import Derived.WalkLawsBesides
import Derived.Deep.LoopGhost
import Derived.Test.YtkfimdpcadbcpaaGreatDoorA02
import Derived.Test.YtkfimdpcadbcpaaGreatDoorA01
import Derived.Deep.AppendLies
import Derived.Deep.RegionLaw
import Derived.Deep.RegionHeld3
import Derived.Maps.AppendAt
import Derived.Test.YtkfimdpcadbcpaaGreatDoorA08
import Derived.Test.YtkfimdpcadbcpaaGreatDoorA04
import Derived.Test.YtkfimdpcadbcpaaGreatDoorA07
set_option linter.unusedSimpArgs false
set_option linter.unusedVariables false
set_option maxRecDepth 1000000
set_option maxHeartbeats 8000000
namespace Go.Proofs.YtkfimdpcadbcpaaGreatDoor
section
open Go.RowKit Go.Extern.Stop Go.Stop Go.Extern
theorem zJy {w : World} (v : Value) (P : List Nat) (m : Nat) (h : ListAt byteV w v P) (h1 : 1 ≤ m) (h2 : m ≤ 64) (hP : P.length ≤ 4194304) :
    Calls Tryz.prog 88 #[v, .int .i64 (m : Int)] w fun e w' => ∃ v', e = .returned (.tuple #[v', .nilIface]) ∧ MatFresh byteV 5 w.heap.size 31 w' v' (splitTo P m (pieces P m)) ∧ Below w.heap.size w w' := by
  obtain ⟨i0, hi0, hz0, hz1, hz2⟩ := info_parts zB5
  obtain ⟨j0, hj0, jz0, jz1, jz2⟩ := info_parts zAY
  have HM := lhd (MatAt.nil byteV w)
  have HK := lhd (zCR (L := []) h1 h2 (fun r hr => by simp at hr))
  have HV := lhd h
  obtain ⟨a, cap, rfl, -, -, -⟩ := h
  go_enter Tryz.func88, Tryz.ntmps88
  go_wp2_with fail
  refine (zC7 _ [] (m : Int) HM.out (by omega)).mono ?_
  rintro e w1 ⟨rfl, rfl⟩
  rw [HK.out]
  go_wp2_with fail
  go_loopw [0, 7] (fun pv o wr => ∃ k : Nat, k ≤ pieces P m ∧ ListAt byteV w pv (P.drop (k * m)) ∧ MatFresh byteV 5 w.heap.size 31 wr o (splitTo P m k) ∧ Below w.heap.size w wr) (fun pv _ _ => match pv with | .slice _ n _ => n | _ => 0)
  case atStart => exact ⟨0, Nat.zero_le _, by rw [Nat.zero_mul]; exact HV.out, MatFresh.empty w, Below.refl _ _⟩
  case round =>
    obtain ⟨k, hk, hpv, ⟨vs, hown, hel, hfr⟩, hbel⟩ := hrel
    have HFR := lhd hfr
    have hsz := hbel.size
    have HPV := lhd hpv
    have hrl : (P.drop (k * m)).length = P.length - k * m := List.length_drop
    obtain ⟨ap, cp, rfl, hcp, hcm, hcell⟩ := hpv.bytes _ rfl
    by_cases hlt : k * m < P.length
    · obtain ⟨b, off, rfl, hcc⟩ := hcell (by omega)
      have HCC := lhd hcc
      have HCUT := lhd (fun c hc => HPV.out.cutAt c hc)
      have HPS := lhd (zFl P m k)
      have hkl : k < pieces P m := (zFr h1).1 hlt
      obtain ⟨cs, hcs⟩ : ∃ cs, cs = ((P.drop (k * m)).take m).map byteV := ⟨_, rfl⟩
      have hcl : cs.length = min m (P.length - k * m) := by rw [hcs]; simp
      rw [← hcs] at HPS
      have HCV : Hid (∀ j u, cs[j]? = some u → w.cell? ⟨b, off + j, none⟩ = some u) := lhd fun j u hu => by
        have hj : j < cs.length := (List.getElem?_eq_some_iff.1 hu).1
        rw [hcc j (by omega)]
        rw [hcs] at hu
        have hj2 : k * m + j < P.length := by omega
        simp [show j < m by omega, byteV, hj2] at hu
        simp [List.getD_eq_getElem?_getD, hj2, hu]
      have HC1 : Hid (∀ u ∈ cs, u.oneCell' = true) := lhd fun u hu => by
        rw [hcs] at hu
        obtain ⟨y, _, rfl⟩ := List.mem_map.1 hu; rfl
      have HNX : Hid ((P.drop (k * m)).drop cs.length = P.drop ((k + 1) * m)) := lhd (by
        rw [List.drop_drop, Nat.succ_mul, hcl]
        by_cases hm : m ≤ P.length - k * m
        · rw [Nat.min_eq_left hm]
        · rw [Nat.min_eq_right (by omega), List.drop_of_length_le (by omega), List.drop_of_length_le (by omega)])
      have HO := lhd hown
      rw [zAN] at HO
      have HEL := lhd hel
      have HB := lhd hbel
      have hkm : k ≤ P.length := by
        have := Nat.le_mul_of_pos_right k h1
        omega
      rw [hrl] at HPV hcp HCUT ⊢
      generalize hR : P.length - k * m = R at *
      have hR0 : 0 < R := by omega
      have hRI : (0 : Int) < (R : Int) := by omega
      clear hcs hcc hown hel hbel hcell hpv hrl hfr
      have hcR : cs.length ≤ R := by omega
      have hcM : cs.length ≤ m := by omega
      have hc1 : 1 ≤ cs.length := by omega
      have hcRI : (cs.length : Int) ≤ (R : Int) := by omega
      have hRcI : (R : Int) ≤ (cp : Int) := by omega
      have HCL : Hid (cs.length = Nat.min R m) := lhd (by rw [hcl]; exact Nat.min_comm m R)
      have HNEXT : Hid (ListAt byteV w (.slice (if cp = cs.length then some ⟨b, off, none⟩ else some ⟨b, off + cs.length, none⟩) (R - cs.length) (cp - cs.length)) (P.drop ((k + 1) * m))) := lhd (by
        have h := HCUT.out cs.length hcR
        rw [HNX.out] at h
        by_cases e : cp = cs.length
        · rw [if_pos e]; exact h.addr0 (by omega)
        · rw [if_neg e]; exact h)
      clear hcl hR HCUT HNX HPV HCC
      go_wp2_with (first
        | (at_make; refine wpList_make_full _ rfl _ _ 31 rfl w.heap.size 5 j0 (.int .u8 0) 1 Tryz.underlying31 hj0 jz0 jz1 .i64 .i64 _ _ m rfl rfl rfl rfl (by rw [jz2]; omega) (by unfold maxLen; omega) hsz ?_; intro w0 hown0 hgrow0; have hbw := lhd ((Below.refl wr.heap.size wr).grown hgrow0 (Nat.le_refl _) (fun k hk => by cases hk)); have ho1 : Hid (w0.ownsRow w.heap.size 5 1 (.slice (some ⟨wr.heap.size, 0, none⟩) m m) m (List.replicate m (byteV 0))) := lhd (by rw [Nat.mul_one] at hown0; exact toList_madeCells_one (.int .u8 0) m ▸ hown0); clear hown0 hgrow0)
        | ((with_reducible show wpList _ _ _ (⟨some 23, _, _, _, _, _⟩ :: _) _ _); refine wpList_copy_splice rfl (.tmp 21) (.tmp 22) 31 31 rfl 5 Tryz.underlying31 (by rw [hj0]; exact congrArg some jz1) (some ⟨wr.heap.size, 0, none⟩) (some ⟨b, off, none⟩) m m R cp rfl rfl wr.heap.size 0 (List.replicate m (byteV 0)) 5 (zAQ ho1.out).2.2 cs HCL.out (fun _ => ⟨rfl, _, rfl, fun j u hu => by
            have h3 := HCV.out j u hu
            rw [Go.WideShapes.add_plain, (HB.out.trans (hbw.out.mono hsz)).cell (p := ⟨b, off + j, none⟩) (World.block_lt_of_cell? w _ h3), h3]⟩) (by rw [List.length_replicate, Nat.zero_add]; exact hcM) HC1.out wr.heap.size wr hbw.out (Nat.le_refl _) ?_; intro w2 hg2 hb2; have HG2 := hg2; have HB2 := lhd hb2; clear hg2 hb2)
        | (at_builtin; refine wpList_append_own _ rfl (.tmp 25) (.tmp 27) 96 rfl w.heap.size 31 i0 (.slice none 0 0) 1 24 Tryz.underlying96 hi0 hz0 hz1 hz2 rfl (by decide) u7 k vs rfl ((zAh HO.out HB2.out).alloc _) ⟨w2.heap.size, 0, none⟩ 1 1 [.slice (some ⟨wr.heap.size, 0, none⟩) m m] rfl rfl (cell_one_new _ _ _) (fun x hx => by simp at hx; subst hx; rfl) (by unfold maxLen; omega) (by omega) (by have := HB2.out.size; simp; omega) ?_; intro v3 w3 hown1 hgrow1 _; have hb3 := lhd (((HB.out.trans (HB2.out.mono hsz)).alloc (Nat.le_trans hsz HB2.out.size) _).grown hgrow1 (by have := HB2.out.size; simp; omega) (fun k hk => (HO.out.lt k hk).1)); have ho3 : Hid (MatFresh byteV 5 w.heap.size 31 w3 v3 (splitTo P m k ++ [pieceAt P m k])) := lhd (MatFresh.app HFR.out (zN2 hsz) (by decide) (by rw [zAN]; exact zAh HO.out HB2.out) (fun i => (HEL.out i).mono HB2.out) (ElAt.own (f := byteV) (zAq (Nat.le_refl wr.heap.size) (by rw [List.length_map, zBE]) (by unfold maxLen; omega) (by have h := HG2.out; rw [HPS.out] at h; exact h))) (by rw [zAN]; exact hown1) hgrow1); clear hown1 hgrow1))
      go_roundw
      case rel => exact ⟨k + 1, by omega, HNEXT.out, by rw [zE0]; exact ho3.out, hb3.out⟩
      case measure => show R - cs.length < R; omega
    · have hk' : k = pieces P m := by
        have := mt (zFr (p := P) (k := k) h1).2 hlt
        omega
      have hR0 : P.length - k * m = 0 := by omega
      have HO : Hid (MatFresh byteV 5 w.heap.size 31 wr u7 (splitTo P m (pieces P m))) := lhd (by rw [← hk']; exact ⟨vs, hown, hel, hfr⟩)
      have HB := lhd hbel
      obtain ⟨ao, co, rfl, -, -⟩ := zAe hown
      rw [hrl, hR0]
      clear hown hel hbel hfr hpv HPV hcell hrl hR0 hlt hcp
      go_wp2
      go_ret2
      exact ⟨_, rfl, HO.out, HB.out⟩
end

section
open Go.RowKit Go.Extern.Stop Go.Stop Go.Extern
def colV (c : Nat) : Value := .int .i64 (c : Int)
theorem ListAt.cols {w : World} {v : Value} {l : List Nat} (h : ListAt colV w v l) : ListAt intV w v (l.map Int.ofNat) := by
  obtain ⟨a, cap, rfl, hc, hm, h⟩ := h
  refine ⟨a, cap, by simp, by simpa using hc, hm, fun hp => ?_⟩
  obtain ⟨b, off, rfl, hcell⟩ := h (by simpa using hp)
  refine ⟨b, off, rfl, fun j hj => ?_⟩
  rw [hcell j (by simpa using hj)]
  simp [intV, colV]
end

section
open Go.RowKit Go.Extern.Stop Go.Stop Go.Extern
section
variable {w w' : World} {B : Nat} {v : Value} {S : List (List Nat)}
end
def padRow (r : List Nat) (size : Nat) : List Nat := r.take size ++ List.replicate (size - r.length) 0
theorem zCd (r : List Nat) (size : Nat) : (padRow r size).length = size := by unfold padRow; simp; omega
theorem zEs (r : List Nat) (size : Nat) : splice ((List.replicate size 0).map byteV) 0 ((r.take size).map byteV) = (padRow r size).map byteV := by
  unfold splice padRow
  rw [List.take_zero, List.nil_append, Nat.zero_add, List.length_map, List.length_take, List.map_append, ← List.map_drop, List.drop_replicate]
  congr 3
  omega
section
variable {w w' : World} {B : Nat} {v : Value} {L : List (List Nat)}
end
section
variable {w w' : World} {B U : Nat} {v : Value} {L : List (List Nat)}
end
end

section
open Go.RowKit Go.Extern.Stop Go.Stop Go.Extern
theorem zD1 {P : Program} {w : World} {o : Oper} {a : Act} {K : Act → World → Prop} {Q : Exit → Act → World → Prop} (t : TypeId)
    (base : Nat) (e : TypeId) (i : TypeInfo) (z : Value) (size : Nat) (h1 : P.underlying t = some (.slice e)) (h2 : P.info? e = some i) (h3 : i.zero = some z) (h4 : i.size = size)
    (kl kc : IntKind) (n : Nat) (b2 : i.bytes * n ≤ 281474976710656) (b3 : n ≤ maxLen) (b4 : base ≤ w.heap.size)
    (h : ∀ w', w'.ownsRow base e size (.slice (some ⟨w.heap.size, 0, none⟩) n n) n (madeCells z.cells (n * size)).toList → w.grownBy w' none → K (a.put o.dst (.slice (some ⟨w.heap.size, 0, none⟩) n n)) w') :
    Oper.upon P o a K Q (((Instr.makeSlice t (.int kl (n : Int)) (.int kc (n : Int))).run P w).andThen fun v w' => .ok (.value v) w') := by
  obtain ⟨w', hrun, r1, r2⟩ := run_make_full (P := P) w base t e i z size h1 h2 h3 h4 kl kc n b2 b3 b4
  rw [hrun]
  exact h w' r1 r2
end

section
open Go.RowKit Go.Extern.Stop Go.Stop Go.Extern
def symL (s b : Nat) (P : List Nat) : List (List Nat) := splitTo P b (symT s b)
def cutF (s b l q : Nat) (P : List Nat) (i : Nat) : List (List Nat) := ((symL s b P).drop (offP l q i)).take (cntP l q i)
def cutL (s b n l q : Nat) (P : List Nat) : List (List (List Nat)) := (List.range n).map (cutF s b l q P)
theorem zFO (P : List Nat) (N j : Nat) (h : P.length ≤ N) : (padRow P N).getD j 0 = P.getD j 0 := by
  unfold padRow
  rw [List.take_of_length_le h, List.getD_eq_getElem?_getD, List.getD_eq_getElem?_getD]
  by_cases hj : j < P.length
  · rw [List.getElem?_append_left hj]
  · rw [List.getElem?_append_right (by omega), List.getElem?_eq_none (show P.length ≤ j by omega), List.getElem?_replicate]
    split <;> rfl
theorem zH1 {s b : Nat} (hb : 1 ≤ b) (P : List Nat) (hP : P.length = s) : splitTo (padRow P (symT s b * b)) b (pieces (padRow P (symT s b * b)) b) = symL s b P := by
  have h1 : pieces (padRow P (symT s b * b)) b = symT s b := by
    unfold pieces
    rw [zCd]
    have e : symT s b * b + b - 1 = (b - 1) + b * symT s b := by rw [Nat.mul_comm b]; omega
    rw [e, Nat.add_mul_div_left _ _ (by omega), Nat.div_eq_of_lt (by omega)]
    omega
  rw [h1]
  unfold symL splitTo
  refine List.map_congr_left fun i hi => ?_
  unfold pieceAt
  refine List.map_congr_left fun j hj => ?_
  exact zFO P _ _ (by rw [hP]; exact (zEo hb).1)
theorem zBQ (s b : Nat) (P : List Nat) : (symL s b P).length = symT s b := zAN _ _ _
theorem zJs {α : Type} {f : α → Value} {w w' : World} {te : TypeId} {base : Nat} {vs : List Value} {L : List (List α)} (hl : vs.length = L.length) (h2 : ∀ i, ElAt f te base w (vs.getD i nilS) (L.getD i [])) (h3 : ∀ x ∈ vs, ∀ b, x.ownBlock = some b → base ≤ b)
    (hs : ∀ g, base ≤ g → g < w.heap.size → w'.heap[g]? = w.heap[g]?) (i : Nat) : ListAt f w' (vs.getD i nilS) (L.getD i []) := by
  obtain ⟨⟨a, cap, ev, k1, k2, k3⟩, k4⟩ := h2 i
  by_cases hp : 0 < (L.getD i []).length
  · obtain ⟨b, off, rfl, hc⟩ := k3 hp
    have hob : (vs.getD i nilS).ownBlock = some b := by rw [ev]; rfl
    have hlt : base ≤ b := by
      by_cases hi : i < vs.length
      · have e1 : vs.getD i nilS = vs[i] := by simp [List.getD_eq_getElem?_getD, hi]
        exact h3 _ (List.getElem_mem hi) b (by rw [← e1]; exact hob)
      · rw [List.getD_eq_getElem?_getD, List.getElem?_eq_none (by omega)] at hob
        cases hob
    have hb := hs b hlt (World.block_lt_of_cell? w _ (hc 0 hp))
    exact ⟨_, cap, ev, k1, k2, fun _ => ⟨b, off, rfl, fun j hj => by rw [World.cell?_of_block (w := w) (a := ⟨b, off + j, none⟩) hb]; exact hc j hj⟩⟩
  · exact ⟨a, cap, ev, k1, k2, fun h => absurd h hp⟩
def cutV (vs : List Value) (l q k d : Nat) : List Value := if d < k then (vs.drop (offP l q d)).take (cntP l q d) else []
def cutE (vs : List Value) (l q k x d : Nat) : List Value := if d = k then (vs.drop (offP l q k)).take x else cutV vs l q k d
theorem zJJ (vs : List Value) (l q k d : Nat) : cutV vs l q k d = cutE vs l q k 0 d := by
  unfold cutE
  by_cases e : d = k
  · subst e; rw [if_pos rfl]; unfold cutV; rw [if_neg (by omega)]; simp
  · rw [if_neg e]
theorem zKu (vs : List Value) (l q k d : Nat) : cutE vs l q k (cntP l q k) d = cutV vs l q (k + 1) d := by
  unfold cutE
  by_cases e : d = k
  · subst e; rw [if_pos rfl]; unfold cutV; rw [if_pos (by omega)]
  · rw [if_neg e]; unfold cutV
    by_cases h : d < k
    · rw [if_pos h, if_pos (by omega)]
    · rw [if_neg h, if_neg (by omega)]
theorem zCZ {vs : List Value} {l q k x : Nat} : cutE vs l q k x k = (vs.drop (offP l q k)).take x := by unfold cutE; rw [if_pos rfl]
theorem zIl {vs : List Value} {l q k x : Nat} (h : offP l q k + x < vs.length) (d : Nat) : (if d = k then cutE vs l q k x k ++ [vs.getD (offP l q k + x) nilS] else cutE vs l q k x d) = cutE vs l q k (x + 1) d := by
  by_cases e : d = k
  · subst e
    rw [if_pos rfl, zCZ, zCZ, List.take_add_one]
    congr 1
    rw [List.getElem?_drop, List.getElem?_eq_getElem h, List.getD_eq_getElem?_getD, List.getElem?_eq_getElem h]
    rfl
  · rw [if_neg e]; unfold cutE; rw [if_neg e, if_neg e]
theorem zLc {vs : List Value} {l q k x : Nat} (h : offP l q k + x ≤ vs.length) : (cutE vs l q k x k).length = x := by rw [zCZ, List.length_take, List.length_drop]; omega
theorem zKo {w : World} {s b n l q : Nat} (h : PlanOk s b n l q) (v : Value) (P : List Nat) (hP : ListAt byteV w v P) (hl : P.length = s) :
    Calls Tryz.prog 57 #[v, plV s b n l q] w fun e w' => ∃ g, e = .returned (.tuple #[.slice (some ⟨g, 0, none⟩) n n, .nilIface]) ∧ CubeNew w.heap.size w' (.slice (some ⟨g, 0, none⟩) n n) (cutL s b n l q P) ∧ Below w.heap.size w w' := by
  obtain ⟨j0, hj0, jz0, jz1, jz2⟩ := info_parts zAY
  obtain ⟨m0, hm0, mz0, mz1, mz2⟩ := info_parts zK4
  obtain ⟨i0, hi0, hz0, hz1, hz2⟩ := info_parts zB5
  have HCK : Hid (∀ V : World, Calls Tryz.prog 86 #[.agg #[.int .i64 (s : Int), .int .i64 (b : Int), .int .i64 (n : Int), .int .i64 (l : Int), .int .i64 (q : Int)]] V fun e w' => e = .returned .nilIface ∧ Below V.heap.size V w') := lhd fun V => zH4 h
  have hsl := h.size_le
  have HSY : Hid (∀ V : World, Calls Tryz.prog 84 #[.int .i64 (s : Int), .int .i64 (b : Int)] V fun e w' => e = .returned (.int .i64 ((symT s b : Nat) : Int)) ∧ Below V.heap.size V w') := lhd fun V => zAS s b h.b1 (by omega)
  have HCN : Hid (∀ (i : Nat) (V : World), Calls Tryz.prog 87 #[.agg #[.int .i64 (s : Int), .int .i64 (b : Int), .int .i64 (n : Int), .int .i64 (l : Int), .int .i64 (q : Int)], .int .i64 (i : Int)] V fun e w' => e = .returned (.int .i64 ((cntP l q i : Nat) : Int)) ∧ Below V.heap.size V w') := lhd fun i V => zHd h i
  have HH := lhd h
  have hb1 := h.b1
  have hb2 := h.b64
  have hn1 := h.n1
  have hn := h.n16
  have hTl := h.symT_le
  have hT1 := zEE s b
  have hsN := (zEo (s := s) h.b1).1
  have HPAD : Hid (splitTo (padRow P (symT s b * b)) b (pieces (padRow P (symT s b * b)) b) = symL s b P) := lhd (zH1 h.b1 P hl)
  have hpl : (padRow P (symT s b * b)).length = symT s b * b := zCd _ _
  have HPL := lhd hpl
  have HPS := lhd (zEs P (symT s b * b))
  have HTK : Hid (P.take (symT s b * b) = P) := lhd (List.take_of_length_le (by omega))
  rw [HTK.out] at HPS
  have hN2 := hsl.2
  obtain ⟨N, hN⟩ : ∃ N, N = symT s b * b := ⟨_, rfl⟩
  rw [← hN] at HPAD HPL HPS hsN hN2
  have hTb : ((symT s b : Nat) : Int) * (b : Int) = (N : Int) := by rw [hN, Int.natCast_mul]
  have hw1 : IntKind.i64.wrap (N : Int) = (N : Int) := by rw [IntWalk.i64_in _ (by omega)]
  have hTL : (symL s b P).length = symT s b := zBQ s b P
  have HOFF : Hid (∀ i, i ≤ n → offP l q i ≤ symT s b) := lhd fun i hi => by rw [← h.off]; exact zIX hi
  have HOFS : Hid (∀ i, offP l q (i + 1) = offP l q i + cntP l q i) := lhd (zFC l q)
  have HCNB : Hid (∀ i, 1 ≤ cntP l q i ∧ cntP l q i ≤ 128) := lhd h.cnt
  obtain ⟨W0, hW0, hb0, hbx⟩ := zAv w (s : Int) (b : Int) (n : Int) (l : Int) (q : Int)
  have HW0 := lhd hW0
  have HB0 := lhd hb0
  have HX := lhd hbx
  have HP := lhd hP
  obtain ⟨av, cv, rfl, hcv1, hcv2, hcell⟩ := hP
  have hl2 : ((P.length : Int) != (s : Int)) = false := by simp; omega
  have HL := lhd hl
  rw [hl] at HP hcv1 hl2 ⊢
  have HNT := lhd hN
  have HTL := lhd hTL
  clear hW0 hb0 hbx hl h hN hpl hTL hcell hsl
  unfold plV plC
  generalize symT s b = T at *
  have d1 : ((s : Int) != (s : Int)) = false := by simp
  go_enter Tryz.func57, Tryz.ntmps57
  go_wp2_with fail
  rw [← HW0.out]
  refine (HCK.out W0).mono ?_
  rintro e w1 ⟨rfl, hb1'⟩
  have HB1 := lhd (HB0.out.trans (hb1'.mono HB0.out.size))
  have HX1 := lhd (HX.out.mono hb1')
  obtain ⟨c0, c1, c2, c3, c4⟩ := HX1.out.cells
  clear hb1'
  have hbd : Below w1.heap.size w1 w1.drew := (Below.refl _ _).drew
  have HBD := lhd hbd
  have HSAT : Hid (∀ V, Below w1.heap.size w1 V → V.cell? ⟨w.heap.size, 0, none⟩ = some (.int .i64 (s : Int)) ∧ V.cell? ⟨w.heap.size, 1, none⟩ = some (.int .i64 (b : Int))) := lhd fun V hV => ⟨(HX1.out.mono hV).cells.1, (HX1.out.mono hV).cells.2.1⟩
  have HSD := lhd (HSAT.out _ hbd)
  clear hbd
  go_upto_region 6 with fail
  go_region_held3 (fun w' => w'.cell? ⟨w.heap.size, 0, none⟩ = some (.int .i64 (s : Int)) ∧ w'.cell? ⟨w.heap.size, 1, none⟩ = some (.int .i64 (b : Int)))
    (first | exact HSD.out | exact HSAT.out _ HB3.out | exact HSAT.out _ HBM.out | go_keep)
    (first
    | (go_at_call 84; (with_reducible refine (HSY.out _).mono ?_); rintro e w3 ⟨rfl, hb3⟩; have HB3 := lhd (HBD.out.trans (hb3.mono HBD.out.size)); clear hb3)
    | (refine zD1 31 w1.heap.size 5 j0 (.int .u8 0) 1 Tryz.underlying31 hj0 jz0 jz1 .i64 .i64 N (by rw [jz2]; omega) (by unfold maxLen; omega) HB3.out.size ?_; intro wM hoM hgM; have HBM := lhd (HB3.out.grown hgM HB3.out.size (fun k hk => by cases hk)); have HZM : Hid (wM.ownsRow w1.heap.size 5 1 (.slice (some ⟨w3.heap.size, 0, none⟩) N N) N (List.replicate N (byteV 0))) := lhd (by rw [Nat.mul_one] at hoM; exact toList_madeCells_one (.int .u8 0) N ▸ hoM); clear hoM hgM))
  clear c0 c1 c2 c3 c4
  obtain ⟨c0, c1, c2, c3, c4⟩ := (HX1.out.mono HBM.out).cells
  have hgw : w1.heap.size ≤ w3.heap.size := HB3.out.size
  have hBwM := HB1.out.trans (HBM.out.mono HB1.out.size)
  have HCS : Hid (0 < (P.map byteV).length → (some (⟨w3.heap.size, 0, none⟩ : Addr)) = some ⟨w3.heap.size, 0, none⟩ ∧ ∃ ad, av = some ad ∧ ∀ j u, (P.map byteV)[j]? = some u → wM.cell? (ad.add j) = some u) := lhd fun hp => by
    obtain ⟨a', cap', he, -, -, hc⟩ := HP.out.mono hBwM
    simp only [Value.slice.injEq] at he
    obtain ⟨rfl, -, rfl⟩ := he
    obtain ⟨b', off', rfl, hcc⟩ := hc (by simpa using hp)
    refine ⟨rfl, _, rfl, fun j u hu => ?_⟩
    have hj : j < P.length := by have := (List.getElem?_eq_some_iff.1 hu).1; simpa using this
    rw [Go.WideShapes.add_plain, hcc j hj]
    simp [hj] at hu
    rw [hu]
  have HCL : Hid ((P.map byteV).length = Nat.min s N) := lhd (by rw [List.length_map, HL.out]; exact (Nat.min_eq_left hsN).symm)
  have HC1 : Hid (∀ u ∈ P.map byteV, u.oneCell' = true) := lhd fun u hu => by obtain ⟨y, _, rfl⟩ := List.mem_map.1 hu; rfl
  have HFIT : Hid (0 + (P.map byteV).length ≤ (List.replicate N (byteV 0)).length) := lhd (by rw [List.length_map, HL.out, List.length_replicate]; omega)
  clear hBwM
  go_wp2_with (first
    | ((with_reducible show wpList _ _ _ (⟨some 36, _, _, _, _, _⟩ :: _) _ _); refine wpList_copy_splice rfl (.tmp 34) (.tmp 35) 31 31 rfl 5 Tryz.underlying31 (by rw [hj0]; exact congrArg some jz1) (some ⟨w3.heap.size, 0, none⟩) av N N s cv rfl rfl w3.heap.size 0 (List.replicate N (byteV 0)) 5 (zAQ HZM.out).2.2 (P.map byteV) HCL.out HCS.out HFIT.out HC1.out w1.heap.size w1 HBM.out hgw ?_; intro w4 hg4 hb4; have HG4 := hg4; have HB4 := lhd hb4; clear c0 c1 c2 c3 c4; obtain ⟨c0, c1, c2, c3, c4⟩ := (HX1.out.mono hb4).cells; clear hg4 hb4))
  have HL4 : Hid (ListAt byteV w4 (.slice (some ⟨w3.heap.size, 0, none⟩) N N) (padRow P N)) := lhd (by
    have h4 := HG4.out
    have hps := HPS.out
    rw [List.map_replicate] at hps
    rw [hps] at h4
    have := ListAt.of_owns (f := byteV) (zAq (base := w1.heap.size) hgw (by rw [List.length_map]) (by rw [HPL.out]; unfold maxLen; omega) h4)
    rwa [HPL.out] at this)
  refine (zJy _ (padRow P N) b HL4.out hb1 hb2 (by rw [HPL.out]; omega)).mono ?_
  rintro e w5 ⟨v5, rfl, hfr, hb5⟩
  rw [HPAD.out] at hfr
  obtain ⟨vs, ho5, hel5, hfr5⟩ := hfr
  rw [HTL.out] at ho5
  have hvl : vs.length = T := by have := ho5.1; omega
  have hsz5 := hb5.size
  have HB5 := lhd (HB1.out.trans ((HB4.out.trans (hb5.mono HB4.out.size)).mono HB1.out.size))
  have HX5 := lhd (HX1.out.mono (HB4.out.trans (hb5.mono HB4.out.size)))
  have HFAR : Hid (∀ w' : World, (∀ g, w4.heap.size ≤ g → g < w5.heap.size → w'.heap[g]? = w5.heap[g]?) → ∀ i, ListAt byteV w' (vs.getD i nilS) ((symL s b P).getD i [])) := lhd fun w' hs i => zJs (by rw [hvl, HTL.out]) hel5 hfr5 hs i
  obtain ⟨a5, cp5, rfl, hcp5, hg5⟩ := zAe ho5
  obtain ⟨g5, rfl⟩ := hg5 (by omega)
  have HO5 := lhd ho5
  have HVL := lhd hvl
  have h4w : w.heap.size ≤ w4.heap.size := Nat.le_trans HB1.out.size HB4.out.size
  clear c0 c1 c2 c3 c4 hfr5 hel5 ho5 hb5 hg5
  obtain ⟨c0, c1, c2, c3, c4⟩ := HX5.out.cells
  have hn2 : (n : Int) ≤ 9223372036854775807 := by omega
  go_wp2_with (at_make; refine wpList_make_full _ rfl _ _ 92 rfl w5.heap.size 96 m0 (.slice none 0 0) 1 Tryz.underlying92 hm0 mz0 mz1 .i64 .i64 _ _ n rfl rfl rfl rfl (by rw [mz2]; omega) (by unfold maxLen; omega) (Nat.le_refl _) ?_; intro w6 ho6 hg6; have HB6 := lhd ((Below.refl w5.heap.size w5).grown hg6 (Nat.le_refl _) (fun k hk => by cases hk)); have HO6 : Hid (w6.ownsRow w5.heap.size 96 1 (.slice (some ⟨w5.heap.size, 0, none⟩) n n) n (List.replicate n nilS)) := lhd (by rw [Nat.mul_one] at ho6; exact toList_madeCells_one (.slice none 0 0) n ▸ ho6); clear ho6 hg6; clear c0 c1 c2 c3 c4; obtain ⟨c0, c1, c2, c3, c4⟩ := (HX5.out.mono HB6.out).cells)
  have HR0 : Hid (RowsV w6 w5.heap.size w5.heap.size n (fun _ => nilS) (cutV vs l q 0)) := lhd ⟨by
      have e : (List.range n).map (fun _ => nilS) = List.replicate n nilS := by
        apply List.ext_getElem
        · simp
        · intro i h1 h2; simp
      rw [e]; exact HO6.out, fun r hr => by
      have e : cutV vs l q 0 r = [] := by unfold cutV; rw [if_neg (by omega)]
      rw [e]; exact World.ownsRow_nil _ _ _ _, fun r s _ _ _ => .inl rfl⟩
  have HALL : Hid (∀ V, Below w5.heap.size w5 V → ∀ j, j < T → V.cell? ⟨g5, j, none⟩ = some (vs.getD j nilS)) := lhd fun V hV j hj => by
    have h1 := HO5.out.cellAt j (by omega)
    rw [(hV.cell (p := ⟨g5, j, none⟩) (HO5.out.lt g5 rfl).2), h1]
    have hj' : j < vs.length := by rw [HVL.out]; exact hj
    simp [List.getD_eq_getElem?_getD, hj']
  have HONE : Hid (∀ j, ∃ a m c, vs.getD j nilS = .slice a m c) := lhd fun j => by
    obtain ⟨a, cap, e, -⟩ := HFAR.out w5 (fun _ _ _ => rfl) j
    exact ⟨_, _, _, e⟩
  have HSUM : Hid (offP l q n = T) := lhd (by rw [← HTL.out, zBQ]; exact HH.out.off)
  clear c0 c1 c2 c3 c4
  go_loopw [53, 11] (fun i t wr => ∃ (k : Nat) (hv : Nat → Value), k ≤ n ∧ i = .int .i64 (k : Int) ∧ t = .int .i64 ((offP l q k : Nat) : Int) ∧ RowsV wr w5.heap.size w5.heap.size n hv (cutV vs l q k) ∧ Below w5.heap.size w5 wr) (fun i _ _ => n - (intOf i).toNat)
  case atStart => exact ⟨0, _, by omega, rfl, by rw [zIB]; rfl, HR0.out, HB6.out⟩
  case round =>
    obtain ⟨k, hv, hk, rfl, rfl, hrv, hbel⟩ := hrel
    have HRV := lhd hrv
    have HB := lhd hbel
    clear hrv
    by_cases hlt : k < n
    · have d2 : decide ((k : Int) < (n : Int)) = true := decide_eq_true (by omega)
      obtain ⟨c0, c1, c2, c3, c4⟩ := (HX5.out.mono hbel).cells
      have HCNk := lhd (HCN.out k)
      have hcb := (HCNB.out k).2
      have hoc := HOFF.out (k + 1) hlt
      rw [HOFS.out k] at hoc
      have HNX := lhd (HOFS.out k)
      have HEA : Hid (∀ d, cutE vs l q k (cntP l q k) d = cutV vs l q (k + 1) d) := lhd (zKu vs l q k)
      have HE0 : Hid (∀ d, cutV vs l q k d = cutE vs l q k 0 d) := lhd (zJJ vs l q k)
      have HES : Hid (∀ x, offP l q k + x < vs.length → ∀ d, (if d = k then cutE vs l q k x k ++ [vs.getD (offP l q k + x) nilS] else cutE vs l q k x d) = cutE vs l q k (x + 1) d) := lhd fun x hx => zIl hx
      have HEL : Hid (∀ x, offP l q k + x ≤ vs.length → (cutE vs l q k x k).length = x) := lhd fun x hx => zLc hx
      clear hbel
      generalize cntP l q k = c at *
      generalize offP l q k = o at *
      go_wp2_with fail
      refine (HCNk.out _).mono ?_
      rintro e w7 ⟨rfl, hb7⟩
      have HB7 := lhd (HB.out.trans (hb7.mono HB.out.size))
      have HRV7 := lhd (HRV.out.mono hb7)
      clear hb7 c0 c1 c2 c3 c4
      go_wp2_with fail
      go_loopw [59, 11] (fun r t wr => ∃ (x : Nat) (hv : Nat → Value), x ≤ c ∧ r = .int .i64 (x : Int) ∧ t = .int .i64 ((o + x : Nat) : Int) ∧ RowsV wr w5.heap.size w5.heap.size n hv (cutE vs l q k x) ∧ Below w5.heap.size w5 wr) (fun r _ _ => c - (intOf r).toNat)
      case atStart => exact ⟨0, hv, by omega, rfl, rfl, HRV7.out.congr fun d _ => HE0.out d, HB7.out⟩
      case round =>
        obtain ⟨x, hv2, hx, rfl, rfl, hrv2, hbel2⟩ := hrel
        by_cases hxl : x < c
        · have d3 : decide ((x : Int) < (c : Int)) = true := decide_eq_true (by omega)
          have hot : o + x < T := by omega
          have hE := HES.out x (by rw [HVL.out]; exact hot)
          have hlen := HEL.out x (by rw [HVL.out]; omega)
          have hsz2 := hbel2.size
          have hsl := hrv2.slice hlt
          have hhead := hrv2.head hlt
          have hrow2 := hrv2.row k hlt
          rw [hlen] at hsl hrow2
          obtain ⟨a, cap, hva⟩ := hsl
          have hfr : wr.frozen? ⟨w5.heap.size, k, none⟩ = false := hrv2.own.frozenAt k
          have hall := HALL.out wr hbel2 (o + x) hot
          have hx1 := HONE.out (o + x)
          generalize vs.getD (o + x) nilS = xv at *
          have hba : Below wr.heap.size wr (wr.alloc (.cells #[xv] 31)) := (Below.refl _ _).alloc (Nat.le_refl _) _
          have hbad : Below wr.heap.size wr (wr.alloc (.cells #[xv] 31)).drew := hba.drew
          have hrowa := (hrv2.mono hba).head hlt
          have hfra : (wr.alloc (.cells #[xv] 31)).frozen? ⟨w5.heap.size, k, none⟩ = false := (hrv2.mono hba).own.frozenAt k
          have halla : (wr.alloc (.cells #[xv] 31)).cell? ⟨g5, o + x, none⟩ = some xv := (hba.cell (p := ⟨g5, o + x, none⟩) (World.block_lt_of_cell? wr ⟨g5, o + x, none⟩ hall)).trans hall
          have HO2 : Hid (((wr.alloc (.cells #[xv] 31)).drew).ownsRow w5.heap.size 31 1 (hv2 k) x (cutE vs l q k x k)) := lhd (zAh hrow2 hbad)
          have HEND : Hid (∀ (g c2 : Nat) (w2 : World), w2.ownsRow w5.heap.size 31 1 (.slice (some ⟨g, 0, none⟩) (x + 1) c2) (x + 1) (cutE vs l q k x k ++ [xv]) → ((wr.alloc (.cells #[xv] 31)).drew).grownBy w2 (hv2 k).ownBlock → ((hv2 k).ownBlock = some g ∨ g = wr.heap.size + 1) →
              ((∃ hv' : Nat → Value, RowsV (w2.setCell ⟨w5.heap.size, k, none⟩ (.slice (some ⟨g, 0, none⟩) (x + 1) c2)) w5.heap.size w5.heap.size n hv' (cutE vs l q k (x + 1))) ∧ Below w5.heap.size w5 (w2.setCell ⟨w5.heap.size, k, none⟩ (.slice (some ⟨g, 0, none⟩) (x + 1) c2))) ∧
              w2.cell? ⟨w5.heap.size, k, none⟩ = some (hv2 k) ∧ w2.frozen? ⟨w5.heap.size, k, none⟩ = false ∧ w2.cell? ⟨g5, o + x, none⟩ = some xv) :=
            lhd fun g c2 w2 h1 h2 h3 => by
              have h' := hrv2.mono hbad
              have hsz' : wr.heap.size + 1 = (wr.alloc (.cells #[xv] 31)).drew.heap.size := by simp
              have hadd := h'.add (r := k) (g := g) (cap := c2) (x := xv) (W' := w2) hlt (by rw [hlen]; exact h1) h2 (h3.imp id (fun e => by omega))
              rw [hlen] at hadd
              have hhl : w5.heap.size < (wr.alloc (.cells #[xv] 31)).drew.heap.size := (h'.own.lt w5.heap.size rfl).2
              have hkeepH := h2.block w5.heap.size hhl (fun e => h'.ne_heads hlt e.symm)
              refine ⟨⟨⟨_, hadd.congr fun d _ => hE d⟩, ((hbel2.trans (hbad.mono hsz2)).grown h2 (by omega) (fun j hj => ((h'.row k hlt).lt j hj).1)).setCell (p := ⟨w5.heap.size, k, none⟩) (Nat.le_refl _) _⟩, ?_, ?_, ?_⟩
              · rw [World.cell?_of_block (w := (wr.alloc (.cells #[xv] 31)).drew) (a := ⟨w5.heap.size, k, none⟩) hkeepH, h'.head hlt]
              · rw [World.frozen?_of_block (w := (wr.alloc (.cells #[xv] 31)).drew) (a := ⟨w5.heap.size, k, none⟩) hkeepH]
                exact h'.own.frozenAt k
              · have hg5 := (HO5.out.lt g5 rfl).2
                have h5 : w2.heap[g5]? = (wr.alloc (.cells #[xv] 31)).drew.heap[g5]? := h2.block g5 (by omega) (fun e => by
                  have := ((h'.row k hlt).lt g5 e.symm).1
                  omega)
                rw [World.cell?_of_block (w := (wr.alloc (.cells #[xv] 31)).drew) (a := ⟨g5, o + x, none⟩) h5]
                exact halla
          rw [hva] at hhead hrowa HO2 HEND
          obtain ⟨ax, mx, cx, rfl⟩ := hx1
          clear hrv2 hbel2 hE hlen hrow2 hva hba hbad
          generalize cutE vs l q k x k = Q at *
          have HTX : Hid (o + (x + 1) = o + x + 1) := lhd (by omega)
          generalize o + x = t at *
          go_upto_region 18 with fail
          go_region_law (first
            | (refine step_append_lies _ rfl (.tmp 66) (.tmp 71) 96 rfl w5.heap.size 31 i0 (.slice none 0 0) 1 24 Tryz.underlying96 hi0 hz0 hz1 hz2 rfl (by decide) (.slice a x cap) x Q (by simp [Act.eval]) HO2.out ⟨wr.heap.size, 0, none⟩ 1 1 [.slice ax mx cx] (by simp [Act.eval]) rfl (fun j u hu => cell_one_new wr _ _ j u hu) (fun y hy => by simp at hy; subst hy; rfl) (by decide) (by unfold maxLen; omega) (by omega) (by simp; omega) (wr.heap.size + 1) (by simp) ?_; intro g2 c2 w2 hown1 hgrow1 hat1 _; obtain ⟨⟨hE1, hE2⟩, hc1, hc2, hc3⟩ := HEND.out g2 c2 w2 hown1 hgrow1 hat1; have HE1 := lhd hE1; have HE2 := lhd hE2; clear hown1 hgrow1 hat1 hE1 hE2))
          all_goals
            obtain ⟨hv3, HR3⟩ : ∃ hv3, Hid (RowsV _ _ _ _ hv3 _) := ⟨_, lhd HE1.out.choose_spec⟩
            go_wp2
            go_roundw
            case rel => exact ⟨x + 1, hv3, hxl, by go_num, by rw [HTX.out]; go_num, HR3.out, HE2.out⟩
            case measure => simp [intOf]; omega
        · obtain rfl : x = c := by omega
          have d3 : decide ((x : Int) < (x : Int)) = false := decide_eq_false (by omega)
          have HRX := lhd (hrv2.congr fun d _ => HEA.out d)
          have HBX := lhd hbel2
          clear hrv2 hbel2
          go_wp2
          go_roundw
          case rel => exact ⟨k + 1, hv2, hlt, by go_num, by rw [HNX.out], HRX.out, HBX.out⟩
          case measure => simp [intOf]; omega
    · obtain rfl : k = n := by omega
      have d2 : decide ((k : Int) < (k : Int)) = false := decide_eq_false (by omega)
      clear hbel
      go_wp2
      go_ret2
      refine ⟨w5.heap.size, rfl, fun w' hs => ?_, HB5.out.trans (HB.out.mono HB5.out.size)⟩
      have hsz := HB5.out.size
      refine (HRV.out.far fun g h1 h2 => hs g (by omega) h2).cube fun r hr => ?_
      have hvr : cutV vs l q k r = (vs.drop (offP l q r)).take (cntP l q r) := by unfold cutV; rw [if_pos hr]
      rw [hvr]
      unfold cutF
      refine ⟨by rw [List.length_take, List.length_drop, List.length_take, List.length_drop, HVL.out, HTL.out], fun j => ?_⟩
      have hfar := HFAR.out w' (fun g h1 h2 => by rw [hs g (by omega) (by have := HB.out.size; omega)]; exact HB.out.block g h2)
      by_cases hj : j < cntP l q r
      · have := hfar (offP l q r + j)
        simpa only [List.getD_eq_getElem?_getD, List.getElem?_take, if_pos hj, List.getElem?_drop] using this
      · rw [List.getD_eq_getElem?_getD, List.getD_eq_getElem?_getD, List.getElem?_take, List.getElem?_take, if_neg hj, if_neg hj]
        exact ListAt.nil _ _
end

section
open Go.RowKit Go.Extern.Stop Go.Stop Go.Extern
structure Cfg where
  ses : Int
  g : Int
  n : Int
  b : Int
  k : Int
  base : Int
  burst : Int
  every : Int
def cfgC (c : Cfg) : Array Value := #[.int .i64 c.ses, .int .i64 c.g, .int .i64 c.n, .int .i64 c.b, .int .i64 c.k, .int .i64 c.base, .int .i64 c.burst, .int .i64 c.every]
def cfgV (c : Cfg) : Value := .agg (cfgC c)
structure CfgI (c : Cfg) : Prop where
  ses : I64 c.ses
  g : I64 c.g
  n : I64 c.n
  b : I64 c.b
  k : I64 c.k
  base : I64 c.base
  burst : I64 c.burst
  every : I64 c.every
def CfgR (c : Cfg) : Prop := (0 ≤ c.ses ∧ c.ses ≤ 65535) ∧ (1 ≤ c.g ∧ c.g ≤ 8) ∧ (1 ≤ c.n ∧ c.n ≤ 65536) ∧ (1 ≤ c.every ∧ c.every ≤ 4096) ∧ CaOk c.base c.burst 0
instance (c : Cfg) : Decidable (CfgR c) := by unfold CfgR; infer_instance
instance (s b m : Int) : Decidable (OutOf s b m) := by unfold OutOf; infer_instance
def planE (s b m : Int) : Int := if OutOf s b m then 1 else if 16 < upN m.toNat (symT s.toNat b.toNat) then 3 else 0
def plN (s b m : Nat) : Nat := upN m (symT s b)
def plL (s b m : Nat) : Nat := symT s b % plN s b m
def plQ (s b m : Nat) : Nat := symT s b / plN s b m
def lastE (g n N L Q : Nat) : Int := if n % 2 ^ (g - 1) ≠ 0 ∨ n < cntP L Q 0 then 2 else if 4096 < 2 * rateN (g - 1) * (n / 2 ^ (g - 1)) * N then 3 else 0
def snN (c : Cfg) (size : Int) : Int :=
  if ¬ CfgR c then 1 else if planE size c.b c.k ≠ 0 then planE size c.b c.k
  else lastE c.g.toNat c.n.toNat (plN size.toNat c.b.toNat c.k.toNat) (plL size.toNat c.b.toNat c.k.toNat) (plQ size.toNat c.b.toNat c.k.toNat)
def SymF (k size : Nat) (M : List (List Nat)) (f : Nat → List Nat) : Prop :=
  ∃ (s h l p sd : Nat) (V : List (List Nat)), OfP k s h l p ∧ IsSeed k s h l p sd ∧ Tells l size (sysE k s h l p sd size (fun t => M.getD t []) k) V ∧ Cons l (sysE k s h l p sd size (fun t => M.getD t []) k) ∧ ∀ e, f e = symE l p sd size V e
structure SndNum (c : Cfg) (size : Int) (S : Snd) : Prop where
  ses : c.ses = S.ses
  g : c.g = S.g
  n : c.n = S.n
  b : c.b = S.b
  k : c.k = S.k
  base : c.base = S.base
  burst : c.burst = S.burst
  every : c.every = S.every
  size : size = S.size
structure SndOf (c : Cfg) (P : List Nat) (S : Snd) : Prop where
  num : SndNum c P.length S
  ok : SndOk S
  sym : ∀ i, i < S.blocks → SymF (cntP S.long S.short i) S.b (cutF S.size S.b S.long S.short P i) (S.sym i)
theorem CfgR.nat {c : Cfg} (h : CfgR c) (hb : 0 ≤ c.b) (hk : 0 ≤ c.k) : ∃ ses g n b k base burst every : Nat, c = ⟨ses, g, n, b, k, base, burst, every⟩ := by
  obtain ⟨h1, h2, h3, h4, h5⟩ := h
  obtain ⟨a1, a2, a3, a4, a5, a6⟩ := h5
  exact ⟨c.ses.toNat, c.g.toNat, c.n.toNat, c.b.toNat, c.k.toNat, c.base.toNat, c.burst.toNat, c.every.toNat, by
    cases c
    simp only [Cfg.mk.injEq] at *
    omega⟩
theorem SymF.length {k size : Nat} {M : List (List Nat)} {f : Nat → List Nat} (h : SymF k size M f) (e : Nat) : (f e).length = size ∧ Octets (f e) := by
  obtain ⟨s, h, l, p, sd, V, -, -, ht, -, hf⟩ := h
  rw [hf]
  refine ⟨zFL .., zBT (fun r hr => ?_) _⟩
  obtain ⟨c, hc, rfl⟩ := List.mem_map.1 hr
  have hcl : c < V.length := by rw [ht.1]; exact zCr c hc
  exact (ht.row _ (zAt hcl)).2
theorem zLy {c : Cfg} {size : Nat} (h : snN c size = 0) : ∃ S : Snd, SndNum c size S ∧ ∀ sym : Nat → Nat → List Nat, (∀ i e, i < S.blocks → (sym i e).length = S.b ∧ Octets (sym i e)) → SndNum c size { S with sym := sym } ∧ SndOk { S with sym := sym } := by
  unfold snN at h
  split at h
  · cases h
  rename_i hR
  rw [Classical.not_not] at hR
  split at h
  · rename_i h1; exact absurd h h1
  rename_i hp
  rw [Classical.not_not] at hp
  unfold planE at hp
  split at hp
  · cases hp
  rename_i hO
  unfold OutOf at hO
  obtain ⟨ses, g, n, b, k, base, burst, every, rfl⟩ := hR.nat (by omega) (by omega)
  simp only [Int.toNat_natCast] at hp h hO
  split at hp
  · cases hp
  rename_i h16
  unfold lastE at h
  split at h
  · cases h
  rename_i hf
  split at h
  · cases h
  rename_i hr
  obtain ⟨r1, r2, r3, r4, r5⟩ := hR
  obtain ⟨a1, a2, a3, a4, a5, a6⟩ := r5
  simp only at r1 r2 r3 r4 a1 a2 a3 a4
  refine ⟨⟨ses, g, n, b, k, base, burst, every, size, plN size b k, plL size b k, plQ size b k, fun _ _ => []⟩, ⟨rfl, rfl, rfl, rfl, rfl, rfl, rfl, rfl, rfl⟩, fun sym hsym => ⟨⟨rfl, rfl, rfl, rfl, rfl, rfl, rfl, rfl, rfl⟩, ?_⟩⟩
  have hpl : PlanOf size b k (plN size b k) (plL size b k) (plQ size b k) := ⟨by omega, by omega, by omega, by omega, rfl, rfl, rfl⟩
  exact ⟨by simp only; omega, by simp only; omega, by simp only; omega, by simp only; omega, by simp only; omega, by simp only; omega, by simp only; omega, by simp only; omega, by simp only; omega, by simp only; omega, by simp only; omega, hpl, by show plN size b k ≤ 16; unfold plN; omega, by show n % 2 ^ (g - 1) = 0; omega, by show cntP (plL size b k) (plQ size b k) 0 ≤ n; omega, by show 2 * rateN (g - 1) * (n / 2 ^ (g - 1)) * plN size b k ≤ 4096; omega, hsym⟩
end
end Go.Proofs.YtkfimdpcadbcpaaGreatDoor
