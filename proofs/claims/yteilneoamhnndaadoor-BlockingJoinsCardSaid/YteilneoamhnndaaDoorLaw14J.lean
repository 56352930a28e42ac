/- The fourteenth layer's law BlockingJoins. -/
import Derived.Test.YteilneoamhnndaaDoorBkRJoin
import Derived.Test.YteilneoamhnndaaDoorCopyFar
import Derived.Test.YteilneoamhnndaaDoorTurn
import Derived.Test.YteilneoamhnndaaDoorLaw14T
namespace Go.Proofs.YteilneoamhnndaaDoor
open Go.RowKit Go.Extern.Stop Go.Stop Go.Extern

/-- What Join says of blocks by any plan; what the document says then. -/
def JoinSays (C : List (List (List Nat))) (s b n l q : Int) (size : Nat) (w' : World) (ab : Option Addr) (lb cb : Nat) (k : Int) : Prop :=
  (planC s b n l q ≠ 0 ∧ k = planC s b n l q ∧ lb = 0) ∨ (∃ s' b' n' l' q' : Nat, s = s' ∧ b = b' ∧ n = n' ∧ l = l' ∧ q = q' ∧ PlanOk s' b' n' l' q' ∧
    ((JoinOk s' b' n' l' q' C ∧ k = 0 ∧ ∃ g, ab = some ⟨g, 0, none⟩ ∧ lb = s' ∧ cb = s' ∧ size ≤ g ∧ BytesIn w' g (C.flatten.flatten.take s') ∧ (C.flatten.flatten.take s').length = s') ∨ (¬ JoinOk s' b' n' l' q' C ∧ k = 2 ∧ ab = none ∧ lb = 0 ∧ cb = 0)))

theorem bkJoin_all {w : World} (s b n l q : Int) (hs : I64 s) (hb : I64 b) (hn : I64 n) (hl : I64 l) (hq : I64 q) (v : Value) (C : List (List (List Nat))) (hC : CubeAt byteV w v C) :
    Calls Tryd.prog 19 #[plV s b n l q, v] w fun e w' => ∃ ab lb cb E k, e = .returned (.tuple #[.slice ab lb cb, E]) ∧ ErrAns k nameBkJoin w' E ∧ Below w.heap.size w w' ∧ JoinSays C s b n l q w.heap.size w' ab lb cb k := by
  by_cases hk : planC s b n l q = 0
  · obtain ⟨s', b', n', l', q', rfl, rfl, rfl, rfl, rfl, h⟩ := planC_zero hk
    refine (bkJoin_any h v C hC).mono ?_
    rintro e w' ⟨hbl, ⟨hj, g, rfl, hg, hbi, hlen⟩ | ⟨hj, E, rfl, he⟩⟩
    · exact ⟨_, _, _, _, 0, rfl, ErrAns.none _ _, hbl, .inr ⟨s', b', n', l', q', rfl, rfl, rfl, rfl, rfl, h, .inl ⟨hj, rfl, g, rfl, rfl, rfl, hg, hbi, hlen⟩⟩⟩
    · exact ⟨_, _, _, _, 2, rfl, he, hbl, .inr ⟨s', b', n', l', q', rfl, rfl, rfl, rfl, rfl, h, .inr ⟨hj, rfl, rfl, rfl, rfl⟩⟩⟩
  · refine (bkJoin_bad s b n l q hs hb hn hl hq hk v).mono ?_
    rintro e w' ⟨E, rfl, he, hbl⟩
    exact ⟨_, _, _, _, _, rfl, he, hbl, .inl ⟨hk, rfl, rfl⟩⟩

/-- What both sides say in the end. -/
theorem join_end {C : List (List (List Nat))} {s b n l q : Int} {size : Nat} {w2 w3 : World} {ab : Option Addr} {lb cb : Nat} {k : Int} (h : JoinSays C s b n l q size w2 ab lb cb k) (hk : planC s b n l q = 0) (hs : ∀ g, size ≤ g → g < w2.heap.size → w3.heap[g]? = w2.heap[g]?) (hz : w2.heap.size ≤ w3.heap.size) :
    ∃ X : List Nat, ListAt byteV w3 (.slice ab lb cb) X ∧ ∀ (V : World) (v : Value), CubeAt byteV V v C → Calls Tryd.prog 20 #[plV s b n l q, v] V fun e w' => ∃ v', e = .returned (.tuple #[v', .int .i64 k]) ∧ ListAt byteV w' v' X ∧ Below V.heap.size V w' := by
  rcases h with ⟨h, -⟩ | ⟨s', b', n', l', q', rfl, rfl, rfl, rfl, rfl, hp, ⟨hj, rfl, g, rfl, rfl, rfl, hg, hbi, hlen⟩ | ⟨hj, rfl, rfl, rfl, rfl⟩⟩
  · exact absurd hk h
  · refine ⟨C.flatten.flatten.take cb, ?_, fun V v hC => (rbJoin_any hp v C hC).mono ?_⟩
    · have h := (hbi.same (hs g hg hbi.1) hz).at (by rw [hlen]; have := hp.size_le; unfold maxLen; omega)
      rwa [hlen] at h
    · rintro e w' ⟨hb, ⟨-, v', rfl, hl⟩ | ⟨hno, -⟩⟩
      · exact ⟨v', rfl, hl, hb⟩
      · exact absurd hj hno
  · refine ⟨[], ListAt.nil _ _, fun V v hC => (rbJoin_any hp v C hC).mono ?_⟩
    rintro e w' ⟨hb, ⟨hyes, -⟩ | ⟨-, rfl⟩⟩
    · exact absurd hyes hj
    · exact ⟨_, rfl, ListAt.nil _ _, hb⟩

set_option maxRecDepth 1000000 in
set_option maxHeartbeats 4000000 in
theorem joins14 {w : World} (s b n l q : Int) (v : Value) (C : List (List (List Nat))) (hC : CubeAt byteV w v C) (ho : ∀ M ∈ C, ∀ r ∈ M, Octets r) (hR : C.length * 24 ≤ reachBytes ∧ ∀ M ∈ C, M.length * 24 ≤ reachBytes ∧ ∀ r ∈ M, r.length * 1 ≤ reachBytes)
    (hs : I64 s) (hb : I64 b) (hn : I64 n) (hl : I64 l) (hq : I64 q) (hg : Laid w) :
    Calls Tryd.prog 6 #[plV s b n l q, v] w fun e w' => e = .returned (.bool true) ∧ Below w.heap.size w w' := by
  obtain ⟨m0, hm0, mz0, mz1, mz2⟩ := info_parts info_mat
  have hCl : C.length * 24 ≤ 140737488351232 := by have := hR.1; unfold reachBytes at this; omega
  have HRM : Hid (∀ k, (C.getD k []).length * 24 ≤ 140737488351232 ∧ ∀ r ∈ C.getD k [], r.length ≤ 140737488351232) := Lib.hid fun k => by
    by_cases hk : k < C.length
    · have h := hR.2 (C.getD k []) (by rw [List.getD_eq_getElem?_getD, List.getElem?_eq_getElem hk]; exact List.getElem_mem hk)
      refine ⟨by have := h.1; unfold reachBytes at this; omega, fun r hr => ?_⟩
      have := h.2 r hr
      unfold reachBytes at this
      omega
    · rw [List.getD_eq_getElem?_getD, List.getElem?_eq_none (by omega)]
      exact ⟨by simp, fun r hr => by simp at hr⟩
  have HG := Lib.hid hg
  have HOC := Lib.hid ho
  have HCK : Hid (∀ V : World, Calls Tryd.prog 11 #[.agg #[.int .i64 s, .int .i64 b, .int .i64 n, .int .i64 l, .int .i64 q]] V fun e w' => e = .returned (.int .i64 (planC s b n l q)) ∧ Below V.heap.size V w') := Lib.hid fun V => rbCheck_any s b n l q hs hb hn hl hq
  have HJN : Hid (∀ (V : World) (v : Value), CubeAt byteV V v C → Calls Tryd.prog 19 #[.agg #[.int .i64 s, .int .i64 b, .int .i64 n, .int .i64 l, .int .i64 q], v] V fun e w' => ∃ ab lb cb E k, e = .returned (.tuple #[.slice ab lb cb, E]) ∧ ErrAns k nameBkJoin w' E ∧ Below V.heap.size V w' ∧ JoinSays C s b n l q V.heap.size w' ab lb cb k) := Lib.hid fun V v hv => bkJoin_all s b n l q hs hb hn hl hq v C hv
  obtain ⟨W0, hW0, hb0, hbx⟩ := pl_laid w s b n l q
  have HW0 := Lib.hid hW0
  have HB0 := Lib.hid hb0
  have HX := Lib.hid hbx
  have HC0 := Lib.hid (hC.mono hb0)
  obtain ⟨av, cv, rfl, hcv, -, -⟩ := hC.opens
  have hlen := hC.len
  obtain ⟨c0, c1, c2, c3, c4⟩ := hbx.cells
  clear hW0 hb0 hbx hg hs hb hn hl hq ho hR hC
  unfold plV plC
  go_enter Tryd.func6, Tryd.ntmps6
  go_upto_region 1 with fail
  rw [← HW0.out]
  go_wp2_with fail
  go_loopw [5, 6] (fun o i wr => ∃ k : Nat, k ≤ C.length ∧ i = .int .i64 (k : Int) ∧ CubeS wr W0.heap.size o (C.take k) ∧ Below W0.heap.size W0 wr) (fun _ i _ => C.length - (intOf i).toNat)
  case atStart => exact ⟨0, by omega, rfl, ⟨[], World.ownsRow_made (base := W0.heap.size) (e := 46) (size := 1) W0 #[] 0 (Nat.le_refl _) (by decide) rfl, fun i hi => by simp at hi⟩, (Below.refl _ _).alloc (Nat.le_refl _) _⟩
  case round =>
    obtain ⟨k, hk, rfl, hcs, hbel⟩ := hrel
    have HB := Lib.hid hbel
    have hsz := hbel.size
    clear c0 c1 c2 c3 c4
    by_cases hlt : k < C.length
    · have d2 : decide ((k : Int) < (C.length : Int)) = true := decide_eq_true (by omega)
      obtain ⟨vs, hown, hel⟩ := hcs
      have hql : (C.take k).length = k := by rw [List.length_take]; omega
      have HQ := Lib.hid hql
      rw [hql] at hown
      have HO := Lib.hid hown
      have HEL := Lib.hid hel
      obtain ⟨ao, co, rfl, -, -⟩ := own_open hown
      obtain ⟨a', cap', he, -, -, hcell⟩ := HC0.out.opens
      obtain ⟨bk, off, hab, hcc⟩ := hcell (by omega)
      have hab2 : av = some ⟨bk, off, none⟩ := by simp at he; rw [he.1]; exact hab
      subst hab2
      obtain ⟨x, hx, hxm⟩ := hcc k hlt
      have hx1 := (hbel.cell (p := ⟨bk, off + k, none⟩) (World.block_lt_of_cell? W0 _ hx)).trans hx
      have HXM := Lib.hid (hxm.mono hbel)
      have hrm := HRM.out k
      have HTK : Hid (C.take (k + 1) = C.take k ++ [C.getD k []]) := Lib.hid (by rw [List.take_add_one, List.getElem?_eq_getElem hlt, List.getD_eq_getElem?_getD, List.getElem?_eq_getElem hlt]; rfl)
      obtain ⟨ax, cx, rfl, -, -, -⟩ := hxm.opens
      have HCP := Lib.hid (sCopy_far _ (C.getD k []) HXM.out hrm.1 hrm.2)
      clear hcell hcc hx hxm hown hel hbel he hrm
      generalize C.getD k [] = M at *
      go_wp2_with fail
      refine HCP.out.mono ?_
      rintro e w3 ⟨v3, rfl, hsep, hb3⟩
      have HS3 := Lib.hid (hsep.syms.base hsz)
      have HB3 := Lib.hid (HB.out.trans (hb3.mono hsz))
      have HO3 := Lib.hid (owns_kept HO.out hb3)
      have HEL3 : Hid (∀ i, i < (C.take k).length → SymsAt w3 W0.heap.size (vs.getD i nilS) ((C.take k).getD i [])) := Lib.hid fun i hi => (HEL.out i hi).mono hb3
      have hsz3 := HB3.out.size
      obtain ⟨a3, c3, rfl, -, -, -⟩ := hsep.at.opens
      clear hsep hb3
      go_wp2_with (at_builtin; refine wpList_append_own _ rfl (.tmp 22) (.tmp 28) 40 rfl W0.heap.size 46 m0 (.slice none 0 0) 1 24 Tryd.underlying40 hm0 mz0 mz1 mz2 rfl (by decide) (.slice ao k co) k vs rfl (HO3.out.alloc _) ⟨w3.heap.size, 0, none⟩ 1 1 [.slice a3 M.length c3] rfl rfl (cell_one_new _ _ _) (fun x hx => by simp at hx; subst hx; rfl) (by unfold maxLen; omega) (by omega) (by simp; omega) ?_; intro v4 w4 hown1 hgrow1 _; have HB4 := Lib.hid ((HB3.out.alloc hsz3 _).grown hgrow1 (by simp; omega) (fun j hj => (HO3.out.lt j hj).1)); have HC4 : Hid (CubeS w4 W0.heap.size v4 (C.take k ++ [M])) := Lib.hid (CubeS.snoc (by rw [HQ.out]; exact HO3.out.alloc _) (fun i hi => (HEL3.out i hi).mono ((Below.refl _ _).alloc (Nat.le_refl _) _)) (HS3.out.mono ((Below.refl _ _).alloc (Nat.le_refl _) _)) (by rw [HQ.out]; exact hown1) hgrow1); clear hown1 hgrow1)
      go_roundw
      case rel => exact ⟨k + 1, hlt, by go_num, by rw [HTK.out]; exact HC4.out, HB4.out⟩
      case measure => simp [intOf]; omega
    · obtain rfl : k = C.length := by omega
      have d2 : decide ((C.length : Int) < (C.length : Int)) = false := decide_eq_false (by omega)
      rw [List.take_length] at hcs
      have HCS := Lib.hid hcs
      obtain ⟨hs5, hown5, -⟩ := hcs
      obtain ⟨ao, co, rfl, -, -⟩ := own_open hown5
      obtain ⟨c0, c1, c2, c3, c4⟩ := (HX.out.mono hbel).cells
      clear hown5 hbel
      go_wp2_with fail
      refine (HJN.out wr _ HCS.out.at).mono ?_
      rintro e w2 ⟨ab, lb, cb, E, kj, rfl, he, hb2, hjs⟩
      have HB2 := Lib.hid (HB.out.trans (hb2.mono hsz))
      have HE2 := Lib.hid he
      have HJS := Lib.hid hjs
      have hsz2 := hb2.size
      have HSH := Lib.hid ((HCS.out.shape HOC.out).mono hb2)
      clear he hb2 hjs c0 c1 c2 c3 c4
      obtain ⟨wj, hwj⟩ : ∃ wj, wj = wr := ⟨_, rfl⟩
      subst hwj
      go_wp2_with fail
      go_loopw [9] (fun i wo => ∃ k : Nat, k ≤ C.length ∧ i = .int .i64 (k : Int) ∧ Turn W0.heap.size wj.heap.size w2 wo) (fun i _ => C.length - (intOf i).toNat)
      case atStart => exact ⟨0, by omega, rfl, Turn.refl _ _ _⟩
      case round =>
        obtain ⟨k, hk, rfl, htn⟩ := hrel
        by_cases hlt : k < C.length
        · have d3 : decide ((k : Int) < (C.length : Int)) = true := decide_eq_true (by omega)
          obtain ⟨a5, q5, he5, -, -, hcell5⟩ := HSH.out
          obtain ⟨g5, hab5, hcc5⟩ := hcell5 (by omega)
          have hab6 : ao = some ⟨g5, 0, none⟩ := by simp at he5; rw [he5.1]; exact hab5
          subst hab6
          obtain ⟨y5, hy5, hm5⟩ := hcc5 k hlt
          have HM5 := Lib.hid hm5
          obtain ⟨ai, ci, rfl, hci, hcim, -⟩ := hm5
          have HH1 : Hid (∀ V, Turn W0.heap.size wj.heap.size w2 V → V.cell? ⟨g5, k, none⟩ = some (.slice ai (C.getD k []).length ci)) := Lib.hid fun V ht => ht.cel _ _ hy5 (slice_byte _ _ _)
          clear hcell5 hcc5 hy5 he5
          generalize C.getD k [] = M at *
          have hMb : M.length ≤ 9223372036854775807 := by unfold maxLen at hcim; omega
          have q1 := HH1.out _ htn
          go_wp2_with fail
          clear q1
          go_loopw [10] (fun i wo => ∃ r : Nat, r ≤ M.length ∧ i = .int .i64 (r : Int) ∧ Turn W0.heap.size wj.heap.size w2 wo) (fun i _ => M.length - (intOf i).toNat)
          case atStart => exact ⟨0, by omega, rfl, htn⟩
          case round =>
            obtain ⟨r, hr, rfl, htn2⟩ := hrel
            have q1 := HH1.out _ htn2
            by_cases hrl : r < M.length
            · have d4 : decide ((r : Int) < (M.length : Int)) = true := decide_eq_true (by omega)
              obtain ⟨a6, q6, he6, -, -, hcell6⟩ := HM5.out
              obtain ⟨g6, hab7, hcc6⟩ := hcell6 (by omega)
              have hab8 : ai = some ⟨g6, 0, none⟩ := by simp at he6; rw [he6.1]; exact hab7
              subst hab8
              obtain ⟨y6, hy6, hm6⟩ := hcc6 r hrl
              have HM6 := Lib.hid hm6
              obtain ⟨ak, ck, rfl, hck, hckm, -⟩ := hm6
              have HH2 : Hid (∀ V, Turn W0.heap.size wj.heap.size w2 V → V.cell? ⟨g6, r, none⟩ = some (.slice ak (M.getD r []).length ck)) := Lib.hid fun V ht => ht.cel _ _ hy6 (slice_byte _ _ _)
              clear hcell6 hcc6 hy6 he6
              generalize M.getD r [] = R at *
              have hRb : R.length ≤ 9223372036854775807 := by unfold maxLen at hckm; omega
              have q2 := HH2.out _ htn2
              go_wp2_with fail
              clear q1 q2
              go_loopw [11] (fun i wo => ∃ t : Nat, t ≤ R.length ∧ i = .int .i64 (t : Int) ∧ Turn W0.heap.size wj.heap.size w2 wo) (fun i _ => R.length - (intOf i).toNat)
              case atStart => exact ⟨0, by omega, rfl, htn2⟩
              case round =>
                obtain ⟨t, ht, rfl, htn3⟩ := hrel
                have q1 := HH1.out _ htn3
                have q2 := HH2.out _ htn3
                by_cases htl : t < R.length
                · have d5 : decide ((t : Int) < (R.length : Int)) = true := decide_eq_true (by omega)
                  obtain ⟨a7, q7, he7, -, -, hcell7⟩ := HM6.out
                  obtain ⟨g7, hab9, hgB, hgU, hcc7⟩ := hcell7 (by omega)
                  have hab10 : ak = some ⟨g7, 0, none⟩ := by simp at he7; rw [he7.1]; exact hab9
                  subst hab10
                  obtain ⟨⟨x0, hx0, hx0c⟩, -⟩ := hcc7 0 (by omega)
                  obtain ⟨⟨x1, hx1, hx1c⟩, hfr⟩ := hcc7 t htl
                  obtain ⟨x, hx, hxc⟩ := htn3.byt _ x1 hx1c hx1
                  have q3 : wr.cell? ⟨g7, t, none⟩ = some (.int .u8 (x : Int)) := hxc
                  have q4 : wr.frozen? ⟨g7, t, none⟩ = false := (htn3.frz _).trans hfr
                  have HT3 : Hid (Turn W0.heap.size wj.heap.size w2 ((wr.setCell ⟨g7, t, none⟩ (.int .u8 ((255 - x : Nat) : Int))).drew)) := Lib.hid (Turn.drew (Turn.set htn3 hxc hx0c hgB hgU (by omega)))
                  have hsub : (255 : Int) - (x : Int) = ((255 - x : Nat) : Int) := by omega
                  have hy : 255 - x < 256 := by omega
                  clear hcell7 hcc7 he7 hx0c hx1c hxc htn3 htn2 htn
                  generalize 255 - x = y at *
                  go_upto_region 16 with fail
                  go_region
                  go_wp2
                  go_roundw
                  case rel => exact ⟨t + 1, htl, by go_num, HT3.out⟩
                  case measure => simp [intOf]; omega
                · obtain rfl : t = R.length := by omega
                  have d5 : decide ((R.length : Int) < (R.length : Int)) = false := decide_eq_false (by omega)
                  go_wp2
                  go_roundw
                  case rel => exact ⟨r + 1, hrl, by go_num, htn3⟩
                  case measure => simp [intOf]; omega
            · obtain rfl : r = M.length := by omega
              have d4 : decide ((M.length : Int) < (M.length : Int)) = false := decide_eq_false (by omega)
              go_wp2
              go_roundw
              case rel => exact ⟨k + 1, hlt, by go_num, htn2⟩
              case measure => simp [intOf]; omega
        · obtain rfl : k = C.length := by omega
          have d3 : decide ((C.length : Int) < (C.length : Int)) = false := decide_eq_false (by omega)
          have HB3 := Lib.hid (HB2.out.trans htn.below)
          have HWB := Lib.hid (HB0.out.trans (HB3.out.mono HB0.out.size))
          have HE3 := Lib.hid (htn.err HE2.out)
          have HX3 := Lib.hid (HX.out.mono HB3.out)
          have HC3 := Lib.hid (HC0.out.mono HB3.out)
          have HFAR : Hid (∀ g, wj.heap.size ≤ g → g < w2.heap.size → wr.heap[g]? = w2.heap[g]?) := Lib.hid fun g h1 _ => htn.beyond h1
          have hszr : w2.heap.size ≤ wr.heap.size := by rw [htn.size]; exact Nat.le_refl _
          obtain ⟨c0, c1, c2, c3, c4⟩ := HX3.out.cells
          clear htn
          obtain ⟨pc, hpc⟩ : ∃ pc, pc = planC s b n l q := ⟨_, rfl⟩
          have HPC := Lib.hid hpc
          rw [← hpc] at HCK
          clear hpc
          go_wp2_with fail
          refine (HCK.out wr).mono ?_
          rintro e w4 ⟨rfl, hb4⟩
          have HB4 := Lib.hid (HWB.out.trans (hb4.mono HWB.out.size))
          have HX4 := Lib.hid (HX3.out.mono hb4)
          have HE4 := Lib.hid (HE3.out.mono hb4)
          have HC4 := Lib.hid (HC3.out.mono hb4)
          clear c0 c1 c2 c3 c4
          obtain ⟨c0, c1, c2, c3, c4⟩ := HX4.out.cells
          by_cases hp0 : pc = 0
          · obtain ⟨X, hXl, hRJ⟩ := join_end HJS.out (by rw [← HPC.out]; exact hp0) HFAR.out hszr
            have HXL := Lib.hid (hXl.mono hb4)
            have HRJ := Lib.hid (hRJ w4 _ HC4.out)
            unfold plV plC at HRJ
            subst hp0
            clear hXl hRJ hb4
            go_wp2_with fail
            refine HRJ.out.mono ?_
            rintro e w5 ⟨v5, rfl, hl5, hb5⟩
            have HB5 := Lib.hid (HB4.out.trans (hb5.mono HB4.out.size))
            have HE5 := Lib.hid (HE4.out.mono hb5)
            have HL5 := Lib.hid hl5
            have HXL5 := Lib.hid (HXL.out.mono hb5)
            clear hl5 hb5 c0 c1 c2 c3 c4
            go_wp2_with fail
            refine (tells_ans kj nameBkJoin E HE5.out (HG.out.mono HB5.out)).mono ?_
            rintro e w6 ⟨rfl, hb6⟩
            have HB6 := Lib.hid (HB5.out.trans (hb6.mono HB5.out.size))
            have hst1 := (HXL5.out.mono hb6).str
            have hst2 := (HL5.out.mono hb6).str
            clear hb6
            generalize strN X = st at *
            go_wp2_with fail
            refine (awake14 _).mono ?_
            rintro e w7 ⟨rfl, hb7⟩
            have HB7 := Lib.hid (HB6.out.trans (hb7.mono HB6.out.size))
            clear hb7
            go_wp2
            go_ret
            exact ⟨rfl, HB7.out⟩
          · have hpn : (pc != 0) = true := by simpa using hp0
            obtain ⟨hkj, hlb⟩ : kj = pc ∧ lb = 0 := by
              rcases HJS.out with ⟨-, h1, h2⟩ | ⟨s', b', n', l', q', rfl, rfl, rfl, rfl, rfl, h, -⟩
              · exact ⟨by rw [h1, HPC.out], h2⟩
              · exact absurd (by rw [HPC.out]; exact planC_ok h) hp0
            subst hlb
            have HKJ := Lib.hid hkj
            have HT : Hid (Calls Tryd.prog 9 #[E, .int .i64 pc, .string nameBkJoin] w4 fun e w' => e = .returned (.bool true) ∧ Below w4.heap.size w4 w') := Lib.hid (by rw [← HKJ.out]; exact tells_ans kj nameBkJoin E HE4.out (HG.out.mono HB4.out))
            clear hp0 hkj hb4
            go_wp2_with fail
            refine HT.out.mono ?_
            rintro e w5 ⟨rfl, hb5⟩
            have HB5 := Lib.hid (HB4.out.trans (hb5.mono HB4.out.size))
            clear hb5 c0 c1 c2 c3 c4
            go_wp2_with fail
            refine (awake14 _).mono ?_
            rintro e w6 ⟨rfl, hb6⟩
            have HB6 := Lib.hid (HB5.out.trans (hb6.mono HB5.out.size))
            clear hb6
            go_wp2
            go_ret
            exact ⟨rfl, HB6.out⟩
end Go.Proofs.YteilneoamhnndaaDoor
