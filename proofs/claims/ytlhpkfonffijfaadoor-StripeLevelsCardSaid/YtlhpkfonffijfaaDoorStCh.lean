/- The document's functions of layer 17: Chunks, Check, Esis. -/
import Derived.Test.YtlhpkfonffijfaaDoorStLvl
import Derived.Test.YtlhpkfonffijfaaDoorPkIn
namespace Go.Proofs.YtlhpkfonffijfaaDoor
open Go.RowKit Go.Extern.Stop Go.Stop Go.Extern

theorem cut_ints {w : World} {v : Value} {l : List Nat} (h : ListAt cutV w v l) : ListAt intV w v (l.map fun c : Nat => (c : Int)) := by
  obtain ⟨a, cap, rfl, h1, h2, h3⟩ := h
  refine ⟨a, cap, by rw [List.length_map], by rw [List.length_map]; exact h1, h2, fun hp => ?_⟩
  obtain ⟨b, off, rfl, hc⟩ := h3 (by simpa using hp)
  refine ⟨b, off, rfl, fun j hj => ?_⟩
  rw [hc j (by simpa using hj)]
  simp [cutV, intV]
theorem cut_mem {l : List Nat} {c : Nat} : decide ((c : Int) ∈ l.map fun c : Nat => (c : Int)) = decide (c ∈ l) := by
  apply decide_eq_decide.2
  rw [List.mem_map]
  constructor
  · rintro ⟨a, ha, e⟩
    obtain rfl : a = c := by omega
    exact ha
  · exact fun h => ⟨c, h, rfl⟩
/-- what is not among others, as far as it has been gone over -/
def notTo (F L : List Nat) (i : Nat) : List Nat := (F.take i).filter fun c => decide (c ∉ L)
theorem notTo_one {F L : List Nat} {i : Nat} (hi : i < F.length) (h : F.getD i 0 ∉ L) : notTo F L (i + 1) = notTo F L i ++ [F.getD i 0] := by
  rw [List.getD_eq_getElem?_getD, List.getElem?_eq_getElem hi] at h ⊢
  simp only [Option.getD_some] at h ⊢
  unfold notTo
  rw [List.take_add_one, List.getElem?_eq_getElem hi, List.filter_append]
  simp [h]
theorem notTo_none {F L : List Nat} {i : Nat} (hi : i < F.length) (h : F.getD i 0 ∈ L) : notTo F L (i + 1) = notTo F L i := by
  rw [List.getD_eq_getElem?_getD, List.getElem?_eq_getElem hi] at h
  simp only [Option.getD_some] at h
  unfold notTo
  rw [List.take_add_one, List.getElem?_eq_getElem hi, List.filter_append]
  simp [h]
theorem notTo_length (F L : List Nat) (i : Nat) : (notTo F L i).length ≤ i := by
  have h1 := List.length_filter_le (fun c => decide (c ∉ L)) (F.take i)
  have h2 := List.length_take_le i F
  unfold notTo
  omega

set_option linter.unusedSimpArgs false in
set_option linter.unusedVariables false in
set_option maxRecDepth 1000000 in
set_option maxHeartbeats 4000000 in
theorem stChunks_gen {w : World} (g l s : Nat) (F L : List Nat) (hg : g ≤ 8) (hl : 1 ≤ l) (hl8 : l ≤ 8) (hF : F.length ≤ 128)
    (h1 : ∀ V : World, Calls Tryd.prog 18 #[.int .i64 (g : Int), .int .i64 (l : Int), .int .u32 (s : Int)] V fun e w' => ∃ v', e = .returned v' ∧ w'.ownsRow V.heap.size 3 1 v' F.length (F.map cutV) ∧ Below V.heap.size V w')
    (h2 : ∀ V : World, Calls Tryd.prog 18 #[.int .i64 (g : Int), .int .i64 ((l : Int) - 1), .int .u32 (s : Int)] V fun e w' => ∃ v', e = .returned v' ∧ w'.ownsRow V.heap.size 3 1 v' L.length (L.map cutV) ∧ Below V.heap.size V w') :
    Calls Tryd.prog 16 #[.int .i64 (g : Int), .int .i64 (l : Int), .int .u32 (s : Int)] w fun e w' => ∃ v', e = .returned v' ∧ w'.ownsRow w.heap.size 3 1 v' (F.filter fun c => decide (c ∉ L)).length ((F.filter fun c => decide (c ∉ L)).map cutV) ∧ Below w.heap.size w w' := by
  obtain ⟨i0, hi, hz0, hz1, hz2⟩ := info_parts info_int
  have H1 := Lib.hid h1
  have H2 := Lib.hid h2
  have hl0 : ((l : Int) == 0) = false := by simp; omega
  have hlw : IntKind.i64.wrap ((l : Int) - 1) = (l : Int) - 1 := IntWalk.i64_in _ (by omega)
  have HEND : Hid (notTo F L F.length = F.filter fun c => decide (c ∉ L)) := Lib.hid (by unfold notTo; rw [List.take_length])
  have HST : Hid (notTo F L 0 = []) := Lib.hid rfl
  clear h1 h2
  go_enter Tryd.func16, Tryd.ntmps16
  go_wp2_with fail
  with_reducible refine (H1.out w).mono ?_
  rintro e w1 ⟨v1, rfl, ho1, hb1⟩
  have HB1 := Lib.hid hb1
  have HO1 := Lib.hid ho1
  obtain ⟨a1, c1, hv1, -, hg1⟩ := own_open ho1
  subst hv1
  have HG1 := Lib.hid hg1
  clear ho1 hb1 hg1
  go_wp2_with fail
  with_reducible refine (H2.out w1).mono ?_
  rintro e w2 ⟨v2, rfl, ho2, hb2⟩
  have HB2 := Lib.hid (HB1.out.trans (hb2.mono HB1.out.size))
  have HO2 := Lib.hid (owns_kept HO1.out hb2)
  have HL2 := Lib.hid (cut_ints (ListAt.of_owns (f := cutV) (l := L) ho2))
  obtain ⟨a2, c2, hv2, -, -⟩ := own_open ho2
  subst hv2
  clear ho2 hb2
  have HBE := Lib.hid (HB2.out.alloc HB2.out.size (.cells #[] 3))
  have HBE2 := Lib.hid ((Below.refl w2.heap.size w2).alloc (Nat.le_refl _) (.cells #[] 3))
  have HOS := Lib.hid (World.ownsRow_made (base := w2.heap.size) (e := 3) (size := 1) w2 #[] 0 (Nat.le_refl _) (by decide) rfl)
  go_wp2_with fail
  go_loopw [9, 10] (fun v i wr => ∃ j : Nat, j ≤ F.length ∧ i = .int .i64 (j : Int) ∧ wr.ownsRow w2.heap.size 3 1 v (notTo F L j).length ((notTo F L j).map cutV) ∧ Below w2.heap.size w2 wr) (fun _ i _ => F.length - (intOf i).toNat)
  case atStart => exact ⟨0, Nat.zero_le _, rfl, by rw [HST.out]; exact HOS.out, HBE2.out⟩
  case round =>
    obtain ⟨j, hj, rfl, hown, hbel⟩ := hrel
    have HB := Lib.hid hbel
    have HOW := Lib.hid hown
    by_cases hlt : j < F.length
    · have d1 : decide ((j : Int) < (F.length : Int)) = true := decide_eq_true (by omega)
      obtain ⟨g1, rfl⟩ := HG1.out (by omega)
      have hx1 : wr.cell? ⟨g1, j, none⟩ = some (.int .i64 ((F.getD j 0 : Nat) : Int)) := by
        have h := (owns_kept HO2.out hbel).cellAt j (by omega)
        rw [h]
        simp [cutV, List.getD_eq_getElem?_getD, hlt]
      have HIN := Lib.hid fun V (hV : Below w2.heap.size w2 V) => In_any (w := V) _ _ ((F.getD j 0 : Nat) : Int) (HL2.out.mono hV)
      rw [cut_mem] at HIN
      have hq := notTo_length F L j
      by_cases ht : F.getD j 0 ∈ L
      · have HS := Lib.hid (notTo_none hlt ht)
        rw [decide_eq_true ht] at HIN
        clear hown hbel ht
        generalize F.getD j 0 = x at *
        go_wp2_with fail
        refine (HIN.out _ HB.out).mono ?_
        rintro e w4 ⟨rfl, rfl⟩
        go_wp2_with fail
        go_roundw
        case rel => exact ⟨j + 1, by omega, by go_num, by rw [HS.out]; exact HOW.out, HB.out⟩
        case measure => simp [intOf]; omega
      · have HS := Lib.hid (notTo_one hlt ht)
        rw [decide_eq_false ht] at HIN
        clear hown hbel ht
        generalize F.getD j 0 = x at *
        generalize hqe : (notTo F L j).length = q at *
        have HQ := Lib.hid hqe
        clear hqe
        go_wp2_with fail
        refine (HIN.out _ HB.out).mono ?_
        rintro e w4 ⟨rfl, rfl⟩
        have HO4 := Lib.hid (HOW.out.alloc (.cells #[.int .i64 (x : Int)] 3))
        have HSZ := Lib.hid HB.out.size
        go_wp2_with (at_builtin; refine wpList_append_own _ rfl (.tmp 37) (.tmp 42) 32 rfl w2.heap.size 3 i0 (.int .i64 0) 1 8 Tryd.underlying32 hi hz0 hz1 hz2 rfl (by decide) u9 q ((notTo F L j).map cutV) rfl HO4.out ⟨wr.heap.size, 0, none⟩ 1 1 [.int .i64 (x : Int)] rfl rfl (cell_one_new _ _ _) (fun x hx => by simp at hx; subst hx; rfl) (by unfold maxLen; omega) (by omega) (by have := HSZ.out; simp; omega) ?_; intro v5 w5 hown1 hgrow1 _; have HB5 := Lib.hid ((HB.out.alloc HSZ.out _).grown hgrow1 (by have := HSZ.out; simp; omega) (fun k hk => (HO4.out.lt k hk).1)); have HO5 := Lib.hid hown1; clear hown1 hgrow1)
        go_roundw
        case rel => exact ⟨j + 1, by omega, by go_num, by rw [HS.out]; exact own_snoc HQ.out HO5.out, HB5.out⟩
        case measure => simp [intOf]; omega
    · obtain rfl : j = F.length := by omega
      have d1 : decide ((F.length : Int) < (F.length : Int)) = false := decide_eq_false (by omega)
      rw [HEND.out] at HOW
      clear hown hbel
      go_wp2
      go_ret
      exact ⟨_, rfl, ownsRow_base HOW.out HB2.out.size, HB2.out.trans (HB.out.mono HB2.out.size)⟩

set_option maxRecDepth 1000000 in
set_option maxHeartbeats 4000000 in
theorem stChunks_any {w : World} (g m l s : Nat) (hg : g = m + l + 1) (h8 : g ≤ 8) (hs : s < 4294967296) :
    Calls Tryd.prog 16 #[.int .i64 (g : Int), .int .i64 (l : Int), .int .u32 (s : Int)] w fun e w' => ∃ v', e = .returned v' ∧ w'.ownsRow w.heap.size 3 1 v' (layL m s l).length ((layL m s l).map cutV) ∧ Below w.heap.size w w' := by
  cases l with
  | zero =>
    have H1 : Hid (Calls Tryd.prog 18 #[.int .i64 (g : Int), .int .i64 0, .int .u32 (s : Int)] w fun e w' => ∃ v', e = .returned v' ∧ w'.ownsRow w.heap.size 3 1 v' (levL m 0 s).length ((levL m 0 s).map cutV) ∧ Below w.heap.size w w') := Lib.hid (stLevel_any (w := w) g m 0 s hg h8 hs)
    show Calls Tryd.prog 16 #[.int .i64 (g : Int), .int .i64 0, .int .u32 (s : Int)] w fun e w' => ∃ v', e = .returned v' ∧ w'.ownsRow w.heap.size 3 1 v' (levL m 0 s).length ((levL m 0 s).map cutV) ∧ Below w.heap.size w w'
    generalize levL m 0 s = F at *
    clear hg h8 hs
    go_enter Tryd.func16, Tryd.ntmps16
    go_wp2_with fail
    with_reducible refine H1.out.mono ?_
    rintro e w1 ⟨v1, rfl, ho1, hb1⟩
    have HB1 := Lib.hid hb1
    have HO1 := Lib.hid ho1
    clear ho1 hb1
    go_wp2
    go_ret
    exact ⟨_, rfl, HO1.out, HB1.out⟩
  | succ k =>
    have hle : (levL m (k + 1) s).length ≤ 128 := by
      rw [levL_length]
      have : (2 : Nat) ^ (k + 1) ≤ 2 ^ 7 := st_pow_le (by omega)
      simpa using this
    have e2 : ((k + 1 : Nat) : Int) - 1 = (k : Int) := by omega
    have h1 := fun V : World => stLevel_any (w := V) g m (k + 1) s hg h8 hs
    have h2 := fun V : World => stLevel_any (w := V) g (m + 1) k s (by omega) h8 hs
    rw [← layL_filter m k s (p := fun c => decide (c ∉ levL (m + 1) k s)) fun c => by simp]
    generalize levL m (k + 1) s = F at *
    generalize levL (m + 1) k s = L at *
    rw [← e2] at h2
    exact stChunks_gen g (k + 1) s F L h8 (by omega) (by omega) hle h1 h2
end Go.Proofs.YtlhpkfonffijfaaDoor
