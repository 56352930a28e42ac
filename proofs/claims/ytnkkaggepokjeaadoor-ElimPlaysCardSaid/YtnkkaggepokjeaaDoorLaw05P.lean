/- ElimPlays: the walk. -/
import Derived.Test.YtnkkaggepokjeaaDoorJoinG
import Derived.Test.YtnkkaggepokjeaaDoorJoinE
import Derived.Test.YtnkkaggepokjeaaDoorPkOwn
namespace Go.Proofs.YtnkkaggepokjeaaDoor
open Go.RowKit Go.Extern.Stop Go.Stop Go.Extern

/-- 'make([]T, n)' as a region that draws leaves it: n zero elements are owned. -/
theorem upon_make_all {P : Program} {w : World} {o : Oper} {a : Act} {K : Act → World → Prop} {Q : Exit → Act → World → Prop} (t : TypeId)
    (base : Nat) (e : TypeId) (i : TypeInfo) (z : Value) (size : Nat) (h1 : P.underlying t = some (.slice e)) (h2 : P.info? e = some i) (h3 : i.zero = some z) (h4 : i.size = size)
    (kl kc : IntKind) (n : Nat) (b2 : i.bytes * n ≤ 281474976710656) (b3 : n ≤ maxLen) (b4 : base ≤ w.heap.size)
    (h : ∀ w', w'.ownsRow base e size (.slice (some ⟨w.heap.size, 0, none⟩) n n) n (madeCells z.cells (n * size)).toList → w.grownBy w' none → K (a.put o.dst (.slice (some ⟨w.heap.size, 0, none⟩) n n)) w') :
    Oper.upon P o a K Q (((Instr.makeSlice t (.int kl (n : Int)) (.int kc (n : Int))).run P w).andThen fun v w' => .ok (.value v) w') := by
  obtain ⟨w', hrun, r1, r2⟩ := run_make_full (P := P) w base t e i z size h1 h2 h3 h4 kl kc n b2 b3 b4
  rw [hrun]
  exact h w' r1 r2

theorem lit_int (w : World) (c : Int) : ListAt intV (w.alloc (.cells #[.int .i64 c] 3)) (.slice (some ⟨w.heap.size, 0, none⟩) 1 1) [c] :=
  ⟨_, 1, rfl, Nat.le_refl _, by unfold maxLen; omega, fun _ => ⟨w.heap.size, 0, rfl, fun j hj => by
    obtain rfl : j = 0 := by simpa using hj
    exact World.cell?_alloc_new _ _ _ _⟩⟩
theorem made_zeros {w : World} {base size : Nat} {v : Value} (h : w.ownsRow base 5 1 v size (madeCells (Value.int .u8 0).cells (size * 1)).toList) : ListAt byteV w v (List.replicate size 0) := by
  refine ListAt.of_owns (n := size) (base := base) (e := 5) ?_
  rw [List.map_replicate]
  rw [Nat.mul_one] at h
  exact toList_madeCells_one (.int .u8 0) size ▸ h
theorem zero_row {n size : Nat} (hn : 1 ≤ n) : EqOk n size (packW [((0 : Nat) : Int)] (kOf n), List.replicate size 0) := by
  obtain ⟨h1, h2, h3⟩ := one_row (c := 0) (n := n) (by omega)
  refine ⟨h2, h3, fun c hc => ?_, by simp, fun y hy => ?_⟩
  · rw [h1]
    simp [unitV]
    omega
  · rw [List.eq_of_mem_replicate hy]; decide

def lightB (N B : Int) : Bool := decide (N ≤ 12) && decide (B ≤ 4) || decide (checkE N B ≠ 0)

set_option maxRecDepth 1000000 in
set_option maxHeartbeats 2000000 in
theorem light5 {w : World} (N B : Int) : Calls Tryd.prog 9 #[.agg #[.int .i64 N, .int .i64 B]] w fun e w' => e = .returned (.bool (lightB N B)) ∧ Below w.heap.size w w' := by
  have HCall : Hid (∀ w' : World, Calls Tryd.prog 12 #[.int .i64 N, .int .i64 B] w' fun e w'' => e = .returned (.int .i64 (checkE N B)) ∧ w' = w'') := Lib.hid fun w' => elCheck_any N B
  have HB0 := Lib.hid ((Below.refl w.heap.size w).alloc (Nat.le_refl _) (.cells #[.int .i64 N, .int .i64 B] 23))
  have hk : checkE N B = 0 ∨ checkE N B = 1 := by unfold checkE; split <;> simp
  by_cases h1 : N ≤ 12
  · by_cases h2 : B ≤ 4
    · have HE : Hid (lightB N B = true) := Lib.hid (by simp [lightB, h1, h2])
      clear hk HCall
      go_enter Tryd.func9, Tryd.ntmps9
      go_wp2
      go_ret
      exact ⟨by rw [HE.out]; rfl, HB0.out⟩
    · have HE : Hid (lightB N B = decide (checkE N B ≠ 0)) := Lib.hid (by simp [lightB, h2])
      have h3 : 4 < B := by omega
      rcases hk with hk | hk
      all_goals
        rw [hk] at HCall HE
        clear h2 hk
        go_enter Tryd.func9, Tryd.ntmps9
        go_wp2_with fail
        refine (HCall.out _).mono ?_
        rintro e w1 ⟨rfl, rfl⟩
        go_wp2
        go_ret
        exact ⟨by rw [HE.out]; simp [show ¬ B ≤ 4 by omega], HB0.out⟩
  · have HE : Hid (lightB N B = decide (checkE N B ≠ 0)) := Lib.hid (by simp [lightB, h1])
    have h3 : 12 < N := by omega
    rcases hk with hk | hk
    all_goals
      rw [hk] at HCall HE
      clear h1 hk
      go_enter Tryd.func9, Tryd.ntmps9
      go_wp2_with fail
      refine (HCall.out _).mono ?_
      rintro e w1 ⟨rfl, rfl⟩
      go_wp2
      go_ret
      exact ⟨by rw [HE.out]; rfl, HB0.out⟩

set_option maxRecDepth 1000000 in
set_option maxHeartbeats 16000000 in
theorem elimPlays5 {w : World} (N B : Int) (v : Value) (Q : List Eqn) (hQ : EqsAt w v Q) (hW : ∀ p ∈ Q, Word p.1 ∧ Octets p.2) (hR : ∀ p ∈ Q, p.1.length * 8 ≤ 140737488355328 ∧ p.2.length ≤ 140737488355328) (hT : Tab w) (hG : Laid w) (hN : I64 N) (hB : I64 B) :
    Calls Tryd.prog 3 #[.agg #[.int .i64 N, .int .i64 B], v] w fun e w' => e = .returned (.bool true) ∧ Below w.heap.size w w' := by
  obtain ⟨w0, hw0⟩ : ∃ w0, w0 = w.alloc (.cells #[.int .i64 N, .int .i64 B] 23) := ⟨_, rfl⟩
  have hb0 : Below w.heap.size w w0 := by rw [hw0]; exact (Below.refl _ _).alloc (Nat.le_refl _) _
  have hbx : w0.heap[w.heap.size]? = some (.cells #[.int .i64 N, .int .i64 B] 23 (0, 0)) := by rw [hw0]; exact heap_alloc_new w _
  have hc0 := cell_of_heap (j := 0) (u := .int .i64 N) hbx rfl
  have hc1 := cell_of_heap (j := 1) (u := .int .i64 B) hbx rfl
  have HW0 := Lib.hid hw0
  have HB0 := Lib.hid hb0
  have HBX := Lib.hid hbx
  have HT := Lib.hid hT
  have HG := Lib.hid hG
  have HQ := Lib.hid hQ
  have HWQ := Lib.hid hW
  have HRQ := Lib.hid hR
  have HL : Hid (∀ w' : World, Calls Tryd.prog 9 #[.agg #[.int .i64 N, .int .i64 B]] w' fun e w'' => e = .returned (.bool (lightB N B)) ∧ Below w'.heap.size w' w'') := Lib.hid fun w' => light5 N B
  have hqlen := hQ.len
  obtain ⟨aq, cq, rfl, -, -, hqcell⟩ := hQ
  have HQC := Lib.hid hqcell
  clear hqcell
  obtain ⟨iU, hiU, zU0, zU1, zU2⟩ := info_parts info_u64
  obtain ⟨iB, hiB, zB0, zB1, zB2⟩ := info_parts info_u8
  clear hw0 hb0 hbx hT hG hW hR
  cases hlb : lightB N B with
  | false =>
    rw [hlb] at HL
    clear hlb
    go_enter Tryd.func3, Tryd.ntmps3
    go_wp2_with fail
    rw [← HW0.out]
    refine (HL.out _).mono ?_
    rintro e w1 ⟨rfl, hb1⟩
    have HB1 := Lib.hid (HB0.out.trans (hb1.mono HB0.out.size))
    clear hb1
    go_wp2_with fail
    refine (awake5 (HT.out.mono HB1.out)).mono ?_
    rintro e w2 ⟨rfl, hb2⟩
    have HB2 := Lib.hid (HB1.out.trans (hb2.mono HB1.out.size))
    clear hb2
    go_wp2
    go_ret
    exact ⟨rfl, HB2.out⟩
  | true =>
    rw [hlb] at HL
    have HLB := Lib.hid hlb
    clear hlb
    go_enter Tryd.func3, Tryd.ntmps3
    go_wp2_with fail
    rw [← HW0.out]
    refine (HL.out _).mono ?_
    rintro e w1 ⟨rfl, hb1⟩
    have hx1 : w1.heap[w.heap.size]? = some (.cells #[.int .i64 N, .int .i64 B] 23 (0, 0)) := (hb1.block _ (Array.getElem?_eq_some_iff.1 HBX.out).1).trans HBX.out
    have hc0 := cell_of_heap (j := 0) (u := .int .i64 N) hx1 rfl
    have hc1 := cell_of_heap (j := 1) (u := .int .i64 B) hx1 rfl
    have HX1 := Lib.hid hx1
    have HB1 := Lib.hid (HB0.out.trans (hb1.mono HB0.out.size))
    have HB1G := Lib.hid hb1
    clear hb1 hx1
    by_cases hbad : N < 1 ∨ 4096 < N ∨ B < 1 ∨ 64 < B
    · have HCK : Hid (checkE N B = 1) := Lib.hid (if_pos hbad)
      have HBAD := Lib.hid hbad
      clear hbad
      go_wp2_with fail
      clear hc0 hc1
      refine (elNew_bad N B HBAD.out).mono ?_
      rintro e w2 ⟨E2, rfl, he2, hb2⟩
      have HB2 := Lib.hid (HB1.out.trans (hb2.mono HB1.out.size))
      have HE2 := Lib.hid he2
      have hx2 : w2.heap[w.heap.size]? = some (.cells #[.int .i64 N, .int .i64 B] 23 (0, 0)) := (hb2.block _ (Array.getElem?_eq_some_iff.1 HX1.out).1).trans HX1.out
      have hc0 := cell_of_heap (j := 0) (u := .int .i64 N) hx2 rfl
      have hc1 := cell_of_heap (j := 1) (u := .int .i64 B) hx2 rfl
      clear hb2 he2 hx2
      go_wp2_with fail
      clear hc0 hc1
      refine (elCheck_any N B).mono ?_
      rintro e w3 ⟨rfl, rfl⟩
      rw [HCK.out]
      go_wp2_with fail
      refine (tells_ans 1 nameElNew E2 HE2.out (HG.out.mono HB2.out)).mono ?_
      rintro e w3 ⟨rfl, hb3⟩
      have HB3 := Lib.hid (HB2.out.trans (hb3.mono HB2.out.size))
      clear hb3
      go_wp2_with fail
      refine (awake5 (HT.out.mono HB3.out)).mono ?_
      rintro e w4 ⟨rfl, hb4⟩
      have HB4 := Lib.hid (HB3.out.trans (hb4.mono HB3.out.size))
      clear hb4
      go_wp2
      go_ret
      exact ⟨rfl, HB4.out⟩
    · have hlow : 1 ≤ N ∧ N ≤ 12 ∧ 1 ≤ B ∧ B ≤ 4 := by
        have h0 : checkE N B = 0 := if_neg hbad
        have h1 := HLB.out
        unfold lightB at h1
        rw [h0] at h1
        simp at h1
        omega
      obtain ⟨n, rfl⟩ : ∃ n : Nat, N = (n : Int) := ⟨N.toNat, by omega⟩
      obtain ⟨size, rfl⟩ : ∃ n : Nat, B = (n : Int) := ⟨B.toNat, by omega⟩
      obtain ⟨hn1, hn12, hs1, hs4⟩ : 1 ≤ n ∧ n ≤ 12 ∧ 1 ≤ size ∧ size ≤ 4 := by omega
      have HCK : Hid (checkE (n : Int) (size : Int) = 0) := Lib.hid (if_neg hbad)
      clear hlow hbad
      go_wp2_with fail
      clear hc0 hc1
      refine (sysNew n size hn1 (by omega) hs1 (by omega)).mono ?_
      rintro e w2 ⟨b, kb, rfl, hsys, hbb, hkb, hb2⟩
      have HB2 := Lib.hid (HB1G.out.trans (hb2.mono HB1G.out.size))
      have HSYS := Lib.hid hsys
      have hx2 : w2.heap[w.heap.size]? = some (.cells #[.int .i64 n, .int .i64 size] 23 (0, 0)) := (hb2.block _ (Array.getElem?_eq_some_iff.1 HX1.out).1).trans HX1.out
      have HX2 := Lib.hid hx2
      have hc0 := cell_of_heap (j := 0) (u := .int .i64 n) hx2 rfl
      have hc1 := cell_of_heap (j := 1) (u := .int .i64 size) hx2 rfl
      have HBb : Hid (w0.heap.size ≤ b) := Lib.hid (Nat.le_trans HB1G.out.size hbb)
      have HKb : Hid (w0.heap.size ≤ kb) := Lib.hid (Nat.le_trans HB1G.out.size hkb)
      clear hb2 hx2 hsys hbb hkb
      go_wp2_with fail
      clear hc0 hc1
      refine (elCheck_any (n : Int) (size : Int)).mono ?_
      rintro e w3 ⟨rfl, rfl⟩
      rw [HCK.out]
      go_wp2_with fail
      refine (tells_nil nameElNew).mono ?_
      rintro e w3 ⟨rfl, rfl⟩
      have hc0 := cell_of_heap (j := 0) (u := .int .i64 n) HX2.out rfl
      have hc1 := cell_of_heap (j := 1) (u := .int .i64 size) HX2.out rfl
      go_wp2_with fail
      clear hc0 hc1
      obtain ⟨WB, hWB⟩ : ∃ WB, WB = w2.heap.size := ⟨_, rfl⟩
      rw [← hWB]
      have hbS := HSYS.out.base
      have HWBE : Hid (w0.heap.size ≤ b ∧ w0.heap.size ≤ kb ∧ w0.heap.size ≤ WB ∧ b < WB ∧ kb < WB) := Lib.hid ⟨HBb.out, HKb.out, by rw [hWB]; exact HB2.out.size, by rw [hWB]; exact hbS.1, by rw [hWB]; exact hbS.2.1⟩
      have hbd2 : Below w2.heap.size w2 (w2.alloc (.cells (sysC n size nilS false) 36)) := (Below.refl _ _).alloc (Nat.le_refl _) _
      have HP2 : Hid (PlayS (w2.alloc (.cells (sysC n size nilS false) 36)) b kb n size [] false nilS) := Lib.hid ⟨HSYS.out.mono hbd2, (EqsOwn.nil _ w2).mono hbd2, fun p hp => by simp at hp, hn12, hs4⟩
      have HWB2 : Hid ((w2.alloc (.cells (sysC n size nilS false) 36)).heap[WB]? = some (.cells (sysC n size nilS false) 36 (0, 0))) := Lib.hid (by rw [hWB]; exact heap_alloc_new w2 _)
      have HB3 : Hid (Below w0.heap.size w0 (w2.alloc (.cells (sysC n size nilS false) 36))) := Lib.hid (HB2.out.alloc HB2.out.size _)
      clear hbd2 hbS hWB HB2 HSYS HX2 HB1 HX1 HBb HKb
      go_loopw [9] (fun i wr => ∃ k : Nat, k ≤ Q.length ∧ k ≤ 16 ∧ i = .int .i64 k ∧ Below w0.heap.size w0 wr ∧ ∃ L cl v, PlayS wr b kb n size L cl v ∧ wr.heap[WB]? = some (.cells (sysC n size v cl) 36 (0, 0))) (fun i _ => Q.length - (intOf i).toNat)
      case atStart => exact ⟨0, Nat.zero_le _, by omega, rfl, HB3.out, [], false, nilS, HP2.out, HWB2.out⟩
      case round =>
        clear HP2 HWB2 HB3
        obtain ⟨k, hk, hk16, rfl, hbel, L, cl, v, hP, hWB⟩ := hrel
        have HB := Lib.hid hbel
        have HP := Lib.hid hP
        have HWB := Lib.hid hWB
        have hszr := hbel.size
        by_cases hlt : k < Q.length
        · by_cases hlt16 : k < 16
          · have HLT : Hid (b < wr.heap.size ∧ kb < wr.heap.size ∧ WB < wr.heap.size) := Lib.hid ⟨hP.sys.base.1, hP.sys.base.2.1, (Array.getElem?_eq_some_iff.1 hWB).1⟩
            clear hk hk16 hbel hWB hP
            go_wp2_with fail
            refine (sysClone HP.out.sys).mono ?_
            rintro e wC ⟨X, kx, rfl, hX, hX1, hX2, hbC⟩
            have HXX : Hid (Sys wC X n size (vecsE L n) L.length cl kx) := Lib.hid hX
            have hXk := hX.base
            have HXL : Hid (wr.heap.size ≤ X ∧ wr.heap.size ≤ kx ∧ X < wC.heap.size ∧ kx < wC.heap.size) := Lib.hid ⟨hX1, hX2, hXk.1, hXk.2.1⟩
            have HBC := Lib.hid (HB.out.trans (hbC.mono hszr))
            have HPC := Lib.hid (HP.out.mono hbC)
            have HWC : Hid (wC.heap[WB]? = some (.cells (sysC n size v cl) 36 (0, 0))) := Lib.hid ((hbC.block WB (Array.getElem?_eq_some_iff.1 HWB.out).1).trans HWB.out)
            obtain ⟨qb, qo, rfl, hcc⟩ := HQC.out (by omega)
            obtain ⟨xr, xs, hxr, hxs, hlr, hls⟩ := hcc k hlt
            have HRS := Lib.hid (HWQ.out _ (getD_mem_eq hlt))
            have HRL := Lib.hid (HRQ.out _ (getD_mem_eq hlt))
            clear hcc hX hX1 hX2 hXk hbC HP HWB HB
            generalize Q.getD k noEq = q at *
            obtain ⟨row, sym⟩ := q
            simp only at hlr hls HRS HRL
            have HLR := Lib.hid hlr
            have HLS := Lib.hid hls
            obtain ⟨ar, cr, rfl, -, -, -⟩ := hlr
            obtain ⟨ay, cy, rfl, -, -, -⟩ := hls
            have HSQ : Hid (∀ W, Below w0.heap.size w0 W → W.cell? ⟨qb, qo + k * 2, none⟩ = some (.slice ar row.length cr) ∧ W.cell? ⟨qb, qo + k * 2 + 1, none⟩ = some (.slice ay sym.length cy)) := Lib.hid fun W hW =>
              ⟨((HB0.out.trans (hW.mono HB0.out.size)).cell (p := ⟨qb, qo + k * 2, none⟩) (World.block_lt_of_cell? w _ hxr)).trans hxr, ((HB0.out.trans (hW.mono HB0.out.size)).cell (p := ⟨qb, qo + k * 2 + 1, none⟩) (World.block_lt_of_cell? w _ hxs)).trans hxs⟩
            have HBW : Hid (∀ W, Below w0.heap.size w0 W → Below w.heap.size w W) := Lib.hid fun W hW => HB0.out.trans (hW.mono HB0.out.size)
            obtain ⟨hq1, -⟩ := HSQ.out _ (HBC.out.alloc HBC.out.size (.cells #[] 47))
            clear hxr hxs
            go_wp2_with (first
              | (at_builtin; refine wpList_append_of (f := wordV) _ rfl _ _ 38 rfl wC.heap.size 47 iU (.int .u64 0) 8 Tryd.underlying38 hiU zU0 zU1 zU2 rfl _ 0 [] rfl (made_own _ (Nat.le_refl _) (by decide)) _ row rfl (HLR.out.mono (HBW.out _ (HBC.out.alloc HBC.out.size _))) (fun y _ => rfl) (by unfold maxLen; have := HRL.out.1; omega) (by have := HRL.out.1; omega) (by simp) ?_; intro vR wR hoR hgR; have HBR := Lib.hid (made_below HBC.out HBC.out.size hgR); have HCR := Lib.hid (made_below (Below.refl wC.heap.size wC) (Nat.le_refl _) hgR); rw [Nat.zero_add, List.nil_append] at hoR; have HOR := Lib.hid hoR; obtain ⟨aR, cR, rfl, -, hgR'⟩ := own_open hoR; have HGR := Lib.hid hgR'; clear hoR hgR hgR' hq1; have hq2 := (HSQ.out _ (HBR.out.alloc HBR.out.size (.cells #[] 5))).2)
              | (at_builtin; refine wpList_append_of (f := byteV) _ rfl _ _ 39 rfl wC.heap.size 5 iB (.int .u8 0) 1 Tryd.underlying39 hiB zB0 zB1 zB2 rfl _ 0 [] rfl (made_own _ HCR.out.size (by decide)) _ sym rfl (HLS.out.mono (HBW.out _ (HBR.out.alloc HBR.out.size _))) (fun y _ => rfl) (by unfold maxLen; have := HRL.out.2; omega) (by have := HRL.out.2; omega) (by have := HCR.out.size; simp; omega) ?_; intro vS wS hoS hgS; have HBS := Lib.hid (made_below HBR.out HBR.out.size hgS); have HCS := Lib.hid (made_below HCR.out HCR.out.size hgS); have HRS2 := Lib.hid (made_below (Below.refl wR.heap.size wR) (Nat.le_refl _) hgS); rw [Nat.zero_add, List.nil_append] at hoS; have HOS := Lib.hid hoS; obtain ⟨aS, cS, rfl, -, hgS'⟩ := own_open hoS; have HGS := Lib.hid hgS'; clear hoS hgS hgS' hq2; have hq1 := (HSQ.out _ HBS.out).1; have hq2 := (HSQ.out _ HBS.out).2))
            clear hq1 hq2
            obtain ⟨av, cv, hv, -, -, -⟩ := HPC.out.eqs.at
            subst hv
            obtain ⟨kd, bd, L', cl', hAS⟩ := addSays_some n size L cl (row, sym) HRS.out
            have HAS := Lib.hid hAS
            obtain ⟨A, hA⟩ : ∃ A : Nat → Prop, A = fun g => g < wC.heap.size ∨ wS.heap.size ≤ g := ⟨_, rfl⟩
            have HA1 : Hid (∀ g, wS.heap.size ≤ g → A g) := Lib.hid fun g hg => by rw [hA]; exact .inr hg
            have HA2 : Hid (∀ g, A g → g < wC.heap.size ∨ wS.heap.size ≤ g) := Lib.hid fun g hg => by rw [hA] at hg; exact hg
            have HEA : Hid (EqsOwn 0 A wC (.slice av L.length cv) L) := Lib.hid (HPC.out.eqs.weaken fun g hg _ => by rw [hA]; exact .inl hg)
            have HSYA : Hid (SysA A wC b n size (vecsE L n) L.length cl kb) := Lib.hid (HPC.out.sys.here fun g hg => by rw [hA]; exact .inl hg)
            have HWS := Lib.hid ((HCS.out.block WB (Array.getElem?_eq_some_iff.1 HWC.out).1).trans HWC.out)
            have HADD : Hid (∀ W, Below wS.heap.size wS W → Calls Tryd.prog 15 #[.agg #[.int .i64 (n : Int), .int .i64 (size : Int), .slice av L.length cv, .bool cl], .slice ar row.length cr, .slice ay sym.length cy] W fun e w' => ∃ v', e = .returned (.tuple #[.agg #[.int .i64 (n : Int), .int .i64 (size : Int), v', .bool cl'], .int .i64 kd, .int .i64 bd]) ∧ EqsOwn 0 A w' v' L' ∧ Below W.heap.size W w') := Lib.hid fun W hW => by
              have hCW := HCS.out.trans (hW.mono HCS.out.size)
              have hBW := HBW.out _ (HBS.out.trans (hW.mono HBS.out.size))
              exact refAdd_says (HPC.out.mono hCW) (HEA.out.mono hCW) (fun g hg => HA1.out g (Nat.le_trans hW.size hg)) (HLR.out.mono hBW) (HLS.out.mono hBW) HRS.out.1 HAS.out
            have HSAT : Hid (∀ W, Below wS.heap.size wS W → W.cell? ⟨WB, 0, none⟩ = some (.int .i64 (n : Int)) ∧ W.cell? ⟨WB, 1, none⟩ = some (.int .i64 (size : Int)) ∧ W.cell? ⟨WB, 2, none⟩ = some (.slice av L.length cv) ∧ W.cell? ⟨WB, 3, none⟩ = some (.bool cl) ∧ W.cell? ⟨qb, qo + k * 2, none⟩ = some (.slice ar row.length cr) ∧ W.cell? ⟨qb, qo + k * 2 + 1, none⟩ = some (.slice ay sym.length cy)) := Lib.hid fun W hW => by
              have hwb := (hW.block WB (Array.getElem?_eq_some_iff.1 HWS.out).1).trans HWS.out
              obtain ⟨t1, t2⟩ := HSQ.out _ (HBS.out.trans (hW.mono HBS.out.size))
              exact ⟨cell_of_heap (j := 0) hwb rfl, cell_of_heap (j := 1) hwb rfl, cell_of_heap (j := 2) hwb rfl, cell_of_heap (j := 3) hwb rfl, t1, t2⟩
            have HBD : Hid (Below wS.heap.size wS wS.drew) := Lib.hid (Below.refl _ _).drew
            have HBE : Hid (Below wS.heap.size wS (wS.alloc (.cells #[.int .i64 0, .int .i64 0, .slice none 0 0, .bool false] 36)).drew) := Lib.hid ((Below.refl _ _).alloc (Nat.le_refl _) _).drew
            have HSD := Lib.hid (HSAT.out _ HBD.out)
            have hEb : (wS.alloc (.cells #[.int .i64 0, .int .i64 0, .slice none 0 0, .bool false] 36)).drew.heap[wS.heap.size]? = some (.cells (sysC 0 0 nilS false) 36 (0, 0)) := heap_alloc_new wS _
            have HEB := Lib.hid hEb
            clear hA hEb hAS
            go_cut [13, 14, 15, 168] from 56 (fun y kk bb zz wY => zz = undef ∧ kk = .int .i64 kd ∧ bb = .int .i64 bd ∧ ∃ YB v', y = .pointer (some ⟨YB, 0, none⟩) ∧ wS.heap.size ≤ YB ∧ Below wS.heap.size wS wY ∧ wY.heap[YB]? = some (.cells (sysC n size v' cl') 36 (0, 0)) ∧ EqsOwn 0 A wY v' L')
            case first =>
              (
                go_region_held3 (fun w' => w'.cell? ⟨WB, 0, none⟩ = some (.int .i64 (n : Int)) ∧ w'.cell? ⟨WB, 1, none⟩ = some (.int .i64 (size : Int)) ∧ w'.cell? ⟨WB, 2, none⟩ = some (.slice av L.length cv) ∧ w'.cell? ⟨WB, 3, none⟩ = some (.bool cl) ∧ w'.cell? ⟨qb, qo + k * 2, none⟩ = some (.slice ar row.length cr) ∧ w'.cell? ⟨qb, qo + k * 2 + 1, none⟩ = some (.slice ay sym.length cy))
                  (first | exact HSD.out | exact HSAT.out _ HBE.out | exact HSAT.out _ HBA.out | exact HSAT.out _ (HBA.out.alloc HBA.out.size _) | exact HSAT.out _ ((((HBA.out.setCell (p := ⟨wS.heap.size, 0, none⟩) (Nat.le_refl _) _).setCell (p := ⟨wS.heap.size, 1, none⟩) (Nat.le_refl _) _).setCell (p := ⟨wS.heap.size, 2, none⟩) (Nat.le_refl _) _).setCell (p := ⟨wS.heap.size, 3, none⟩) (Nat.le_refl _) _) | go_keep)
                  (first
                  | (go_at_call 15; (with_reducible refine (HADD.out _ HBD.out).mono ?_); rintro e wA ⟨vA, rfl, hoA, hbA⟩; have HOA := Lib.hid hoA; have HBA := Lib.hid (HBD.out.trans (hbA.mono HBD.out.size)); have HYA := Lib.hid True.intro; obtain ⟨aA, cA, rfl, -, -, -⟩ := hoA.at; clear hoA hbA)
                  | (go_at_call 15; (with_reducible refine (HADD.out _ HBE.out).mono ?_); rintro e wA ⟨vA, rfl, hoA, hbA⟩; have HOA := Lib.hid hoA; have HBA := Lib.hid (HBE.out.trans (hbA.mono HBE.out.size)); have hyb := (hbA.block wS.heap.size (by simp)).trans HEB.out; have z0 := cell_of_heap (j := 0) (u := .int .i64 0) hyb rfl; have z1 := cell_of_heap (j := 1) (u := .int .i64 0) hyb rfl; have z2 := cell_of_heap (j := 2) (u := nilS) hyb rfl; have z3 := cell_of_heap (j := 3) (u := .bool false) hyb rfl; have zf0 := frozen_of_heap (j := 0) hyb; have zf1 := frozen_of_heap (j := 1) hyb; have zf2 := frozen_of_heap (j := 2) hyb; have zf3 := frozen_of_heap (j := 3) hyb; have HYA := Lib.hid hyb; obtain ⟨aA, cA, rfl, -, -, -⟩ := hoA.at; clear hoA hbA hyb)))
              all_goals
                go_wp2
                go_meet
                case rel =>
                  first
                  | (
                    have k0 := heap_setCell_at (j := 0) (u := .int .i64 (n : Int)) HYA.out
                    have k1 := heap_setCell_at (j := 1) (u := .int .i64 (size : Int)) k0
                    have k2 := heap_setCell_at (j := 2) (u := .slice aA L'.length cA) k1
                    have k3 := heap_setCell_at (j := 3) (u := .bool cl') k2
                    have ht : (36 : TypeId) ≠ 86 ∧ (36 : TypeId) ≠ 47 ∧ (36 : TypeId) ≠ 5 := by decide
                    exact ⟨rfl, rfl, rfl, wS.heap.size, .slice aA L'.length cA, rfl, Nat.le_refl _, (((HBA.out.setCell (p := ⟨wS.heap.size, 0, none⟩) (Nat.le_refl _) _).setCell (p := ⟨wS.heap.size, 1, none⟩) (Nat.le_refl _) _).setCell (p := ⟨wS.heap.size, 2, none⟩) (Nat.le_refl _) _).setCell (p := ⟨wS.heap.size, 3, none⟩) (Nat.le_refl _) _, k3, (((HOA.out.set HYA.out ht).set k0 ht).set k1 ht).set k2 ht⟩)
                  | exact ⟨rfl, rfl, rfl, wA.heap.size, .slice aA L'.length cA, rfl, HBA.out.size, HBA.out.alloc HBA.out.size _, heap_alloc_new wA _, HOA.out.mono ((Below.refl _ _).alloc (Nat.le_refl _) _)⟩
            case rest =>
              obtain ⟨rfl, rfl, rfl, YB, vY, rfl, hYB, hbY, hyb, hoY⟩ := hcut
              obtain ⟨wY, hwY⟩ : ∃ wY, wY = wc := ⟨_, rfl⟩
              subst hwY
              have HYB := Lib.hid hYB
              have HSY := Lib.hid hbY
              have HYY := Lib.hid hyb
              have HOY := Lib.hid hoY
              have HCY := Lib.hid (HCS.out.trans (hbY.mono HCS.out.size))
              have HBY := Lib.hid (HBC.out.trans (HCY.out.mono HBC.out.size))
              have HRY := Lib.hid (HRS2.out.trans (hbY.mono HRS2.out.size))
              have HORY := Lib.hid (owns_kept HOR.out HRY.out)
              have HOSY := Lib.hid (owns_kept HOS.out hbY)
              obtain ⟨aY, cY, rfl, -, -, -⟩ := hoY.at
              clear hYB hbY hyb hoY HADD HSAT HBD HBE HSD HEB
              go_wp2_with fail
              refine (elAdd_says (HSYA.out.mono HCY.out) (fun g hg => HA1.out g (Nat.le_trans HSY.out.size hg)) (HT.out.mono (HBW.out _ HBY.out)) (q := (row, sym)) (ListAt.of_owns HORY.out) (ListAt.of_owns HOSY.out) HRS.out.1 HAS.out).mono ?_
              rintro e wD ⟨ED, rfl, heD, htD, hsD⟩
              have HED := Lib.hid heD
              have HTD := Lib.hid htD
              have HSD := Lib.hid hsD
              clear heD htD hsD
              go_wp2_with fail
              have HXA : Hid (SysA (fun g => g < wC.heap.size) wD X n size (vecsE L n) L.length cl kx) := Lib.hid (((HXX.out.here (fun g hg => hg)).mono HCY.out).touch (HSYA.out.sys.mono HCY.out) HTD.out (by have := HLT.out; have := HXL.out; omega) (by have := HLT.out; have := HXL.out; omega))
              have HWD : Hid (wD.heap[WB]? = some (.cells (sysC n size (.slice av L.length cv) cl) 36 (0, 0))) := Lib.hid (by
                have h1 := (HCY.out.block WB (Array.getElem?_eq_some_iff.1 HWC.out).1).trans HWC.out
                have := HWBE.out
                exact (HTD.out.block WB (Array.getElem?_eq_some_iff.1 h1).1 (by omega) (by omega)).trans h1)
              have HYD : Hid (wD.heap[YB]? = some (.cells (sysC n size (.slice aY L'.length cY) cl') 36 (0, 0))) := Lib.hid ((touch_kind (HSYA.out.sys.mono HCY.out) HTD.out (by decide) HYY.out).trans HYY.out)
              have HOD : Hid (EqsOwn 0 A wD (.slice aY L'.length cY) L') := Lib.hid (HOY.out.touch (HSYA.out.sys.mono HCY.out) HTD.out)
              have HBD : Hid (Below w0.heap.size w0 wD) := Lib.hid (by
                have := HWBE.out
                exact HBY.out.trans (HTD.out.below this.1 this.2.1 HBY.out.size))
              have HRK : Hid (∀ W, Below wD.heap.size wD W → Calls Tryd.prog 17 #[sysP X] W fun e w' => e = .returned (.int .i64 (L.length : Int)) ∧ W = w') := Lib.hid fun W hW => Rank_any X L.length (HXA.out.sys.mono hW).cells.2.2.2.1
              have HTL : Hid (∀ W, Below wD.heap.size wD W → Calls Tryd.prog 13 #[ED, .int .i64 bd, .string nameElAdd] W fun e w' => e = .returned (.bool true) ∧ Below W.heap.size W w') := Lib.hid fun W hW => tells_ans bd nameElAdd ED (HED.out.mono hW) (HG.out.mono (HBW.out _ (HBD.out.trans (hW.mono HBD.out.size))))
              unfold nameElAdd at HTL
              have HSAT : Hid (∀ W, Below wD.heap.size wD W → W.cell? ⟨WB, 2, none⟩ = some (.slice av L.length cv)) := Lib.hid fun W hW => cell_of_heap (j := 2) ((hW.block WB (Array.getElem?_eq_some_iff.1 HWD.out).1).trans HWD.out) rfl
              have HBDD : Hid (Below wD.heap.size wD wD.drew) := Lib.hid (Below.refl _ _).drew
              have HSDD := Lib.hid (HSAT.out _ HBDD.out)
              go_cut [125, 168] from 56 (fun r zz wE => zz = undef ∧ r = .bool false ∧ Below wD.heap.size wD wE)
              case first =>
                (
                  go_region_held3 (fun w' => w'.cell? ⟨WB, 2, none⟩ = some (.slice av L.length cv))
                    (first | exact HSDD.out | exact HSAT.out _ HB1.out | go_keep)
                    (first
                    | (go_at_call 13; (with_reducible refine (HTL.out _ HBDD.out).mono ?_); rintro e w1 ⟨rfl, hb1⟩; have HB1 := Lib.hid (HBDD.out.trans (hb1.mono HBDD.out.size)); clear hb1)
                    | (go_at_call 17; (with_reducible refine (HRK.out _ HB1.out).mono ?_); rintro e wK ⟨rfl, rfl⟩)))
                all_goals
                  go_wp2
                  go_meet
                  case rel => exact ⟨rfl, rfl, HB1.out⟩
              case rest =>
                obtain ⟨rfl, rfl, hbE⟩ := hcut
                obtain ⟨wE, hwE⟩ : ∃ wE, wE = wc := ⟨_, rfl⟩
                subst hwE
                have HDE := Lib.hid hbE
                clear hbE HRK HTL HSAT HBDD HSDD
                go_wp2_with fail
                have HORE : Hid (wE.ownsRow wC.heap.size 47 1 (.slice aR row.length cR) row.length (row.map wordV)) := Lib.hid (owns_kept ((HSYA.out.sys.mono HCY.out).own HTD.out (by decide) HORY.out) HDE.out)
                have HOSE : Hid (wE.ownsRow wC.heap.size 5 1 (.slice aS sym.length cS) sym.length (sym.map byteV)) := Lib.hid (owns_kept ((HSYA.out.sys.mono HCY.out).own HTD.out (by decide) HOSY.out) HDE.out)
                have hrlen : row.length ≤ 17592186044416 := by have := HRL.out.1; omega
                have hslen : sym.length ≤ 140737488355328 := HRL.out.2
                go_loopw [18] (fun jj wq => ∃ j : Nat, j ≤ row.length ∧ jj = .int .i64 j ∧ Mid wC.heap.size wS.heap.size wE wq ∧ wq.ownsRow wC.heap.size 5 1 (.slice aS sym.length cS) sym.length (sym.map byteV) ∧ ∃ vals : List Value, wq.ownsRow wC.heap.size 47 1 (.slice aR row.length cR) row.length vals ∧ ∀ c, j ≤ c → c < row.length → vals[c]? = some (wordV (row.getD c 0))) (fun jj _ => row.length - (intOf jj).toNat)
                case atStart => exact ⟨0, Nat.zero_le _, rfl, Mid.refl _ _ _, HOSE.out, _, HORE.out, fun c _ hc => by simp [hc]⟩
                case round =>
                  clear HORE HOSE
                  obtain ⟨j, hj, rfl, hmid, hsym, vals, hown, hval⟩ := hrel
                  by_cases hlj : j < row.length
                  · obtain ⟨gR, rfl⟩ := HGR.out (by omega)
                    have hcell := hown.cellAt j (by rw [Nat.mul_one]; exact hlj)
                    rw [hval j (Nat.le_refl _) hlj] at hcell
                    have hfr := hown.frozenAt j
                    have HMID := Lib.hid hmid
                    have HOWN := Lib.hid hown
                    have HVAL := Lib.hid hval
                    have HSYM := Lib.hid hsym
                    have hx : row.getD j 0 < 18446744073709551616 := HRS.out.1.getD j
                    clear hmid hown hval hsym
                    unfold wordV at hcell
                    generalize row.getD j 0 = x at *
                    go_wp2
                    go_roundw
                    case rel =>
                      have hl1 := (HOR.out.lt gR rfl).2
                      have hl2 := HRS2.out.size
                      obtain ⟨hl0, cur, hgc⟩ := own_block HOWN.out (g := gR) rfl
                      exact ⟨j + 1, by omega, by go_num, HMID.out.set hl0 (by omega) hgc (.inl rfl), owns_set HSYM.out hgc (by decide), _, (HOWN.out.stored j _).1, fun c h1 h2 => by
                        rw [List.getElem?_set_ne (by omega)]
                        exact HVAL.out c (by omega) h2⟩
                    case measure => simp [intOf]; omega
                  · have HMID := Lib.hid hmid
                    have HSYM := Lib.hid hsym
                    have hje : j = row.length := by omega
                    clear hmid hown hval hsym hlj hj
                    subst hje
                    go_wp2_with fail
                    go_loopw [19] (fun jj wq => ∃ j : Nat, j ≤ sym.length ∧ jj = .int .i64 j ∧ Mid wC.heap.size wS.heap.size wE wq ∧ ∃ vals : List Value, wq.ownsRow wC.heap.size 5 1 (.slice aS sym.length cS) sym.length vals ∧ ∀ c, j ≤ c → c < sym.length → vals[c]? = some (byteV (sym.getD c 0))) (fun jj _ => sym.length - (intOf jj).toNat)
                    case atStart => exact ⟨0, Nat.zero_le _, rfl, HMID.out, _, HSYM.out, fun c _ hc => by simp [hc]⟩
                    case round =>
                      clear HMID HSYM
                      obtain ⟨j2, hj2, rfl, hmid, vals, hown, hval⟩ := hrel
                      by_cases hlj : j2 < sym.length
                      · obtain ⟨gS, rfl⟩ := HGS.out (by omega)
                        have hcell := hown.cellAt j2 (by rw [Nat.mul_one]; exact hlj)
                        rw [hval j2 (Nat.le_refl _) hlj] at hcell
                        have hfr := hown.frozenAt j2
                        have HMID := Lib.hid hmid
                        have HOWN := Lib.hid hown
                        have HVAL := Lib.hid hval
                        have hx : sym.getD j2 0 < 256 := HRS.out.2.getD j2
                        clear hmid hown hval
                        unfold byteV at hcell
                        generalize sym.getD j2 0 = x at *
                        go_wp2
                        go_roundw
                        case rel =>
                          have hl1 := (HOS.out.lt gS rfl).2
                          obtain ⟨hl0, cur, hgc⟩ := own_block HOWN.out (g := gS) rfl
                          exact ⟨j2 + 1, by omega, by go_num, HMID.out.set hl0 hl1 hgc (.inr rfl), _, (HOWN.out.stored j2 _).1, fun c h1 h2 => by
                            rw [List.getElem?_set_ne (by omega)]
                            exact HVAL.out c (by omega) h2⟩
                        case measure => simp [intOf]; omega
                      · have HMF := Lib.hid hmid
                        have hje : j2 = sym.length := by omega
                        clear hmid hown hval hlj hj2
                        subst hje
                        go_wp2_with fail
                        obtain ⟨wF, hwF⟩ : ∃ wF, wF = wr := ⟨_, rfl⟩
                        subst hwF
                        have HWF : Hid (wF.heap[WB]? = some (.cells (sysC n size (.slice av L.length cv) cl) 36 (0, 0))) := Lib.hid (by
                          have h1 := (HDE.out.block WB (Array.getElem?_eq_some_iff.1 HWD.out).1).trans HWD.out
                          exact (HMF.out.kind _ _ _ _ (by decide) (by decide) h1).trans h1)
                        have HYF : Hid (wF.heap[YB]? = some (.cells (sysC n size (.slice aY L'.length cY) cl') 36 (0, 0))) := Lib.hid (by
                          have h1 := (HDE.out.block YB (Array.getElem?_eq_some_iff.1 HYD.out).1).trans HYD.out
                          exact (HMF.out.kind _ _ _ _ (by decide) (by decide) h1).trans h1)
                        have HXF : Hid (SysA (fun g => g < wC.heap.size) wF X n size (vecsE L n) L.length cl kx) := Lib.hid (HMF.out.sys (HXA.out.mono HDE.out) (fun g hg => .inl hg) HXL.out.2.2.1 HXL.out.2.2.2)
                        have HSF : Hid (SysA A wF b n size (vecsE L' n) L'.length cl' kb) := Lib.hid (by
                          have := HLT.out
                          have := HXL.out
                          exact HMF.out.sys (HSD.out.mono HDE.out) HA2.out (by omega) (by omega))
                        have HOF : Hid (EqsOwn 0 A wF (.slice aY L'.length cY) L') := Lib.hid (HMF.out.eqs (HOD.out.mono HDE.out) HA2.out)
                        have HBF : Hid (Below w0.heap.size w0 wF) := Lib.hid (by
                          have h1 := HBC.out.size
                          have h2 := HBD.out.size
                          have h3 := HDE.out.size
                          exact (HBD.out.trans (HDE.out.mono h2)).trans (HMF.out.below h1 (by omega)))
                        have HZ : Hid (∀ W, Below w0.heap.size w0 W → W.cell? ⟨w.heap.size, 0, none⟩ = some (.int .i64 (n : Int)) ∧ W.cell? ⟨w.heap.size, 1, none⟩ = some (.int .i64 (size : Int))) := Lib.hid fun W hW => by
                          have h1 := (hW.block _ (Array.getElem?_eq_some_iff.1 HBX.out).1).trans HBX.out
                          exact ⟨cell_of_heap (j := 0) h1 rfl, cell_of_heap (j := 1) h1 rfl⟩
                        obtain ⟨P0, hP0⟩ : ∃ P0, P0 = packW [((0 : Nat) : Int)] (kOf n) := ⟨_, rfl⟩
                        have HPK : Hid (∀ W v, ListAt intV W v [0] → Calls Tryd.prog 18 #[v, .int .i64 (n : Int)] W fun e w' => ∃ v', e = .returned v' ∧ ListAt wordV w' v' P0 ∧ Below W.heap.size W w') := Lib.hid fun W v hv => by
                          refine (refPack_own v [0] (n : Int) hv (by omega)).mono ?_
                          rintro e w1 ⟨vn, rfl, hvn, hbn⟩
                          rw [sizeI_of (show n ≤ 4096 by omega)] at hvn
                          rw [hP0]
                          exact ⟨vn, rfl, ListAt.of_owns hvn, hbn⟩
                        have HADX : Hid (∀ W v1 v2, Below wF.heap.size wF W → ListAt wordV W v1 P0 → ListAt byteV W v2 (List.replicate size 0) → Calls Tryd.prog 16 #[sysP X, v1, v2] W fun e w' => ∃ kd E, e = .returned (.tuple #[.int .i64 kd, E]) ∧ Touch X kx W w') := Lib.hid fun W v1 v2 hW h1 h2 =>
                          elAdd_any_row (HXF.out.sys.mono hW) (HT.out.mono (HBW.out _ (HBF.out.trans (hW.mono HBF.out.size)))) h1 h2 (by rw [hP0]; exact zero_row hn1)
                        clear hP0
                        have HSAT : Hid (∀ W, Below wF.heap.size wF W → W.cell? ⟨w.heap.size, 0, none⟩ = some (.int .i64 (n : Int)) ∧ W.cell? ⟨w.heap.size, 1, none⟩ = some (.int .i64 (size : Int))) := Lib.hid fun W hW => HZ.out _ (HBF.out.trans (hW.mono HBF.out.size))
                        have HTB : Hid (∀ W, Touch X kx wF W → Below w0.heap.size w0 W) := Lib.hid fun W hW => by
                          have h1 := HXL.out
                          exact HBF.out.trans (hW.below (by omega) (by omega) HBF.out.size)
                        have HSTT : Hid (∀ W, Touch X kx wF W → W.cell? ⟨w.heap.size, 0, none⟩ = some (.int .i64 (n : Int)) ∧ W.cell? ⟨w.heap.size, 1, none⟩ = some (.int .i64 (size : Int))) := Lib.hid fun W hW => HZ.out _ (HTB.out _ hW)
                        have HBQ : Hid (Below wF.heap.size wF wF.drew) := Lib.hid (Below.refl _ _).drew
                        have HBI : Hid (Below wF.heap.size wF (wF.alloc (.cells #[.int .i64 0] 3)).drew) := Lib.hid ((Below.refl _ _).alloc (Nat.le_refl _) _).drew
                        have HLI : Hid (ListAt intV (wF.alloc (.cells #[.int .i64 0] 3)).drew (.slice (some ⟨wF.heap.size, 0, none⟩) 1 1) [0]) := Lib.hid ((lit_int wF 0).mono (Below.refl _ _).drew)
                        have HSQ1 := Lib.hid (HSAT.out _ HBQ.out)
                        go_cut [8, 168] from 56 (fun p zz wG => zz = undef ∧ p = .pointer (some ⟨WB, 0, none⟩) ∧ Touch X kx wF wG)
                        case first =>
                          (
                            go_region_held3 (fun w' => w'.cell? ⟨w.heap.size, 0, none⟩ = some (.int .i64 (n : Int)) ∧ w'.cell? ⟨w.heap.size, 1, none⟩ = some (.int .i64 (size : Int)))
                              (first | exact HSQ1.out | exact HSTT.out _ HTG.out | exact HSAT.out _ HBI.out | exact HSAT.out _ HBM.out | exact HSAT.out _ HBN.out | exact HSAT.out _ (HBN.out.alloc HBN.out.size _) | exact HSAT.out _ HBP.out | go_keep)
                              (first
                              | (go_at_call 18; (with_reducible refine (HPK.out _ _ HLI.out).mono ?_); rintro e wP ⟨vP, rfl, hlP, hbP⟩; have HBP := Lib.hid (HBI.out.trans (hbP.mono HBI.out.size)); have HLP := Lib.hid hlP; obtain ⟨aP, cP, rfl, -, -, -⟩ := hlP; clear hbP)
                              | (go_at_call 18; (with_reducible refine (HPK.out _ _ HLN.out).mono ?_); rintro e wP ⟨vP, rfl, hlP, hbP⟩; have HBM := Lib.hid (HBN.out.trans (hbP.mono HBN.out.size)); have HLM := Lib.hid hlP; have HZM := Lib.hid (HZN.out.mono hbP); obtain ⟨aP, cP, rfl, -, -, -⟩ := hlP; clear hbP)
                              | (go_at_call 18; (with_reducible refine (HPK.out _ _ (lit_int _ 0)).mono ?_); rintro e wP ⟨vP, rfl, hlP, hbP⟩; have HBM := Lib.hid ((HBN.out.alloc HBN.out.size _).trans (hbP.mono (by have := HBN.out.size; simp; omega))); have HLM := Lib.hid hlP; have HZM := Lib.hid ((HZN.out.mono ((Below.refl _ _).alloc (Nat.le_refl _) _)).mono hbP); obtain ⟨aP, cP, rfl, -, -, -⟩ := hlP; clear hbP)
                              | (refine upon_make_all 39 wF.heap.size 5 iB (.int .u8 0) 1 Tryd.underlying39 hiB zB0 zB1 .i64 .i64 size (by rw [zB2]; omega) (by unfold maxLen; omega) HBP.out.size ?_; intro wM hoM hgM; have HBM := Lib.hid (HBP.out.grown hgM HBP.out.size (fun k hk => by cases hk)); have HLM := Lib.hid (HLP.out.mono ((Below.refl _ _).grown hgM (Nat.le_refl _) (fun k hk => by cases hk))); have HZM := Lib.hid (made_zeros hoM); clear hoM hgM)
                              | (refine upon_make_all 39 wF.heap.size 5 iB (.int .u8 0) 1 Tryd.underlying39 hiB zB0 zB1 .i64 .i64 size (by rw [zB2]; omega) (by unfold maxLen; omega) HBI.out.size ?_; intro wM hoM hgM; rw [show (wF.alloc (.cells #[.int .i64 0] 3)).drew.heap.size = wF.heap.size + 1 from World.size_alloc _ _] at hoM; have HBN := Lib.hid (HBI.out.grown hgM HBI.out.size (fun k hk => by cases hk)); have HLN := Lib.hid (HLI.out.mono ((Below.refl _ _).grown hgM (Nat.le_refl _) (fun k hk => by cases hk))); have HZN := Lib.hid (made_zeros hoM); clear hoM hgM)
                              | (refine upon_make_all 39 wF.heap.size 5 iB (.int .u8 0) 1 Tryd.underlying39 hiB zB0 zB1 .i64 .i64 size (by rw [zB2]; omega) (by unfold maxLen; omega) HBQ.out.size ?_; intro wM hoM hgM; rw [show wF.drew.heap.size = wF.heap.size from rfl] at hoM; have HBN := Lib.hid (HBQ.out.grown hgM HBQ.out.size (fun k hk => by cases hk)); have HZN := Lib.hid (made_zeros hoM); clear hoM hgM)
                              | (go_at_call 16; (with_reducible refine (HADX.out _ _ _ HBM.out HLM.out HZM.out).mono ?_); rintro e wG ⟨kG, EG, rfl, htG⟩; have HTG := Lib.hid ((Touch.of HBM.out).trans htG); clear htG)))
                          all_goals
                            go_wp2
                            go_meet
                            case rel => exact ⟨rfl, rfl, HTG.out⟩
                        case rest =>
                          obtain ⟨rfl, rfl, htG⟩ := hcut
                          obtain ⟨wG, hwG⟩ : ∃ wG, wG = wc := ⟨_, rfl⟩
                          subst hwG
                          have hne : b ≠ X ∧ kb ≠ kx := by
                            have h1 := HLT.out
                            have h2 := HXL.out
                            omega
                          have HSG := Lib.hid (HSF.out.touch HXF.out.sys htG hne.1 hne.2)
                          have HOG := Lib.hid (HOF.out.touch HXF.out.sys htG)
                          have hWG := (touch_kind HXF.out.sys htG (by decide) HWF.out).trans HWF.out
                          have hYG := (touch_kind HXF.out.sys htG (by decide) HYF.out).trans HYF.out
                          have HWG := Lib.hid hWG
                          have HBG := Lib.hid (HTB.out _ htG)
                          have y0 := cell_of_heap (j := 0) (u := .int .i64 (n : Int)) hYG rfl
                          have y1 := cell_of_heap (j := 1) (u := .int .i64 (size : Int)) hYG rfl
                          have y2 := cell_of_heap (j := 2) (u := .slice aY L'.length cY) hYG rfl
                          have y3 := cell_of_heap (j := 3) (u := .bool cl') hYG rfl
                          have g0 := cell_of_heap (j := 0) (u := .int .i64 (n : Int)) hWG rfl
                          have g1 := cell_of_heap (j := 1) (u := .int .i64 (size : Int)) hWG rfl
                          have g2 := cell_of_heap (j := 2) (u := .slice av L.length cv) hWG rfl
                          have g3 := cell_of_heap (j := 3) (u := .bool cl) hWG rfl
                          have f0 := frozen_of_heap (j := 0) hWG
                          have f1 := frozen_of_heap (j := 1) hWG
                          have f2 := frozen_of_heap (j := 2) hWG
                          have f3 := frozen_of_heap (j := 3) hWG
                          clear htG hne hWG hYG HSAT HSTT HADX HPK HBQ HBI HLI HSQ1 HZ
                          go_wp2_with fail
                          clear y0 y1 y2 y3 g0 g1 g2 g3 f0 f1 f2 f3
                          have k0 := heap_setCell_at (j := 0) (u := .int .i64 (n : Int)) HWG.out
                          have k1 := heap_setCell_at (j := 1) (u := .int .i64 (size : Int)) k0
                          have k2 := heap_setCell_at (j := 2) (u := .slice aY L'.length cY) k1
                          have k3 := heap_setCell_at (j := 3) (u := .bool cl') k2
                          have ht : (36 : TypeId) ≠ 86 ∧ (36 : TypeId) ≠ 47 ∧ (36 : TypeId) ≠ 5 := by decide
                          have ht2 : (36 : TypeId) ≠ 74 ∧ (36 : TypeId) ≠ 82 ∧ (36 : TypeId) ≠ 47 ∧ (36 : TypeId) ≠ 5 := by decide
                          have hS4 := (((HSG.out.set HWG.out ht2 (j := 0) (u := .int .i64 (n : Int))).set k0 ht2 (j := 1) (u := .int .i64 (size : Int))).set k1 ht2 (j := 2) (u := .slice aY L'.length cY)).set k2 ht2 (j := 3) (u := .bool cl')
                          have hO4 := (((HOG.out.set HWG.out ht (j := 0) (u := .int .i64 (n : Int))).set k0 ht (j := 1) (u := .int .i64 (size : Int))).set k1 ht (j := 2) (u := .slice aY L'.length cY)).set k2 ht (j := 3) (u := .bool cl')
                          have hwl := HWBE.out.2.2.1
                          have hB4 := (((HBG.out.setCell (p := ⟨WB, 0, none⟩) hwl (.int .i64 (n : Int))).setCell (p := ⟨WB, 1, none⟩) hwl (.int .i64 (size : Int))).setCell (p := ⟨WB, 2, none⟩) hwl (.slice aY L'.length cY)).setCell (p := ⟨WB, 3, none⟩) hwl (.bool cl')
                          have HPH := Lib.hid (⟨hS4.sys, hO4.weaken fun _ _ _ => trivial, HAS.out.ok HPC.out.ok, hn12, hs4⟩ : PlayS _ b kb n size L' cl' (.slice aY L'.length cY))
                          have k4 : _ = some (Obj.cells (sysC n size (.slice aY L'.length cY) cl') 36 (0, 0)) := k3
                          have HWH := Lib.hid k4
                          have HBH := Lib.hid hB4
                          clear k0 k1 k2 k3 k4 hS4 hO4 hB4 hwl ht ht2
                          have ht5 := told5 b kb n size L' cl' _ HPH.out (HT.out.mono (HBW.out _ HBH.out)) (HG.out.mono (HBW.out _ HBH.out))
                          unfold sysV at ht5
                          with_reducible refine ht5.mono ?_
                          clear ht5
                          rintro e wI ⟨rfl, hbI⟩
                          have HPI := Lib.hid (HPH.out.mono hbI)
                          have HWI := Lib.hid ((hbI.block WB (Array.getElem?_eq_some_iff.1 HWH.out).1).trans HWH.out)
                          have HBI := Lib.hid (HBH.out.trans (hbI.mono HBH.out.size))
                          clear hbI
                          go_wp2
                          go_roundw
                          case rel => exact ⟨k + 1, by omega, by omega, by go_num, HBI.out, L', cl', .slice aY L'.length cY, HPI.out, HWI.out⟩
                          case measure => simp [intOf]; omega
          · have hke : k = 16 := by omega
            subst hke
            have hbW := HB0.out.trans (hbel.mono HB0.out.size)
            have HBWR := Lib.hid hbW
            clear hbel hWB hP hbW hlt16 hk16 HP HWB
            go_wp2_with fail
            refine (awake5 (HT.out.mono HBWR.out)).mono ?_
            rintro e w4 ⟨rfl, hb4⟩
            have HB4 := Lib.hid (HBWR.out.trans (hb4.mono HBWR.out.size))
            clear hb4
            go_wp2
            go_ret
            exact ⟨rfl, HB4.out⟩
        · have hke : k = Q.length := by omega
          subst hke
          have hbW := HB0.out.trans (hbel.mono HB0.out.size)
          have HBWR := Lib.hid hbW
          clear hbel hWB hP hbW hlt HP HWB
          go_wp2_with fail
          refine (awake5 (HT.out.mono HBWR.out)).mono ?_
          rintro e w4 ⟨rfl, hb4⟩
          have HB4 := Lib.hid (HBWR.out.trans (hb4.mono HBWR.out.size))
          clear hb4
          go_wp2
          go_ret
          exact ⟨rfl, HB4.out⟩
end Go.Proofs.YtnkkaggepokjeaaDoor
