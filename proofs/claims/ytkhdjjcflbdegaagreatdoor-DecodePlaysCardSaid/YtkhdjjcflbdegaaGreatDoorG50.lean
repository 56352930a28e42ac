import Derived.Test.YtkhdjjcflbdegaaGreatDoorG27
import Derived.Test.YtkhdjjcflbdegaaGreatDoorG11

section
/- Package geyserref04: Add, Check, Sum, Picked, Same, Copy. -/
namespace Go.Proofs.YtkhdjjcflbdegaaGreatDoor
open Go.RowKit Go.Extern.Stop Go.Stop Go.Extern

set_option maxRecDepth 1000000 in
set_option maxHeartbeats 4000000 in
theorem sAdd_any {w : World} (v1 v2 : Value) (xa xb : List Nat) (n : Nat) (h1 : ListAt byteV w v1 xa) (h2 : ListAt byteV w v2 xb) (hw1 : Octets xa) (hw2 : Octets xb) (e1 : xa.length = n) (e2 : xb.length = n) (hlen : n ≤ 281474976710656) :
    Calls Tryz.prog 90 #[v1, v2] w fun e w' => ∃ v', e = .returned v' ∧ w'.ownsRow w.heap.size 5 1 v' n ((xorW xa xb).map byteV) ∧ Below w.heap.size w w' := by
  obtain ⟨i0, hi, hz0, hz1, hz2⟩ := info_parts info_u8
  obtain ⟨a1, cap1, rfl, hcap1, -, hcell1⟩ := h1.bytes n e1
  obtain ⟨a2, cap2, rfl, hcap2, -, hcell2⟩ := h2.bytes n e2
  have HC1 := Lib.hid hcell1
  have HC2 := Lib.hid hcell2
  have HW1 := Lib.hid hw1
  have HW2 := Lib.hid hw2
  have HE : Hid (xa.length = xb.length) := Lib.hid (by omega)
  have HN := Lib.hid e1
  clear hcell1 hcell2 hw1 hw2 h1 h2 e1 e2
  go_enter Tryz.func90, Tryz.ntmps90
  go_wp2_with (at_make; refine wpList_make_full _ rfl _ _ 37 rfl w.heap.size 5 i0 (.int .u8 0) 1 Tryz.underlying37 hi hz0 hz1 .i64 .i64 _ _ n rfl rfl rfl rfl (by rw [hz2]; omega) (by unfold maxLen; omega) (Nat.le_refl _) ?_; intro w0 hown0 hgrow0; have hb0 := Lib.hid ((Below.refl w.heap.size w).grown hgrow0 (Nat.le_refl _) (fun k hk => by cases hk)); have ho0 := Lib.hid hown0; clear hown0 hgrow0)
  go_loopw [6] (fun i wr => ∃ k : Nat, k ≤ n ∧ i = .int .i64 k ∧ (∃ vs : List Nat, vs.length = n ∧ (∀ j, j < k → vs.getD j 0 = xa.getD j 0 ^^^ xb.getD j 0) ∧ wr.ownsRow w.heap.size 5 1 (.slice (some ⟨w.heap.size, 0, none⟩) n n) n (vs.map byteV)) ∧ Below w.heap.size w wr) (fun i _ => n - (intOf i).toNat)
  case atStart => exact ⟨0, Nat.zero_le _, rfl, ⟨List.replicate n 0, by simp, fun j hj => by omega, by rw [List.map_replicate]; have := ho0.out; rw [Nat.mul_one] at this; exact toList_madeCells_one (.int .u8 0) n ▸ this⟩, hb0.out⟩
  case round =>
    obtain ⟨k, hk, rfl, ⟨vs, hvl, hvs, hown⟩, hbel⟩ := hrel
    have hsz := hbel.size
    by_cases hlt : k < n
    · obtain ⟨b1, off1, rfl, hc1⟩ := HC1.out (by omega)
      obtain ⟨b2, off2, rfl, hc2⟩ := HC2.out (by omega)
      have hx1 := hc1 k hlt
      have hx2 := hc2 k hlt
      have hy1 := (hbel.cell (p := ⟨b1, off1 + k, none⟩) (World.block_lt_of_cell? w _ hx1)).trans hx1
      have hy2 := (hbel.cell (p := ⟨b2, off2 + k, none⟩) (World.block_lt_of_cell? w _ hx2)).trans hx2
      have hxlt := HW1.out.getD k
      have hylt := HW2.out.getD k
      have hy3 : wr.cell? ⟨w.heap.size, k, none⟩ = some (.int .u8 ((vs.getD k 0 : Nat) : Int)) := by
        rw [hown.cellAt k (by omega)]
        simp [List.getD_eq_getElem?_getD, hvl, hlt, byteV]
      have hy4 : wr.frozen? ⟨w.heap.size, k, none⟩ = false := hown.frozenAt k
      have hbx := bits_xor_u8_nat (xa.getD k 0) (xb.getD k 0) hxlt hylt
      have HX : Hid (∀ x y, xa.getD k 0 = x → xb.getD k 0 = y → ∀ j, j < k + 1 → (vs.set k (x ^^^ y)).getD j 0 = xa.getD j 0 ^^^ xb.getD j 0) := Lib.hid fun x y ex ey j hj => by
        rw [getD_set _ _ _ _ _ (by omega)]
        by_cases e : j = k
        · subst e; rw [if_pos rfl, ex, ey]
        · rw [if_neg e]; exact hvs j (by omega)
      have HO := Lib.hid hown
      have HB := Lib.hid hbel
      have HL := Lib.hid hvl
      clear hc1 hc2 hx1 hx2 hown hbel hvs hvl hxlt hylt
      generalize xa.getD k 0 = x at hy1 hbx HX
      generalize xb.getD k 0 = y at hy2 hbx HX
      generalize vs.getD k 0 = z at hy3
      go_wp2_with fail
      go_region
      go_wp2
      go_roundw
      case rel => exact ⟨k + 1, by omega, by go_num, ⟨vs.set k (x ^^^ y), by simpa using HL.out, HX.out x y rfl rfl, by rw [List.map_set]; exact (HO.out.stored k (.int .u8 ((x ^^^ y : Nat) : Int))).1⟩, (HB.out.setCell (p := ⟨w.heap.size, k, none⟩) (Nat.le_refl _) _).drew⟩
      case measure => simp [intOf]; omega
    · have hk' : k = n := by omega
      have HO := Lib.hid hown
      have HB := Lib.hid hbel
      have HV : Hid (vs = xorW xa xb) := Lib.hid (by
        apply ext_getD (by rw [xorW_length HE.out, hvl]; exact HN.out.symm)
        intro j hj
        rw [hvs j (by omega), xorW_getD HE.out])
      clear hown hbel hvs hvl
      go_wp2
      go_ret
      exact ⟨_, rfl, by have := HO.out; rw [HV.out] at this; exact this, HB.out⟩

set_option maxRecDepth 1000000 in
set_option maxHeartbeats 4000000 in
theorem sSum_any {w : World} (v : Value) (L : List (List Nat)) (n : Nat) (h : MatAt byteV w v L) (hl : ∀ r ∈ L, r.length = n) (hw : ∀ r ∈ L, Octets r) (hn : n ≤ 281474976710656) :
    Calls Tryz.prog 91 #[v, .int .i64 (n : Int)] w fun e w' => ∃ v', e = .returned v' ∧ w'.ownsRow w.heap.size 5 1 v' n ((sumS n L).map byteV) ∧ Below w.heap.size w w' := by
  obtain ⟨i0, hi, hz0, hz1, hz2⟩ := info_parts info_u8
  have hlen := h.len
  obtain ⟨a, cap, rfl, hcap, hcm, hcell⟩ := h.opens
  have HC := Lib.hid hcell
  have HL := Lib.hid hl
  have HW := Lib.hid hw
  clear h hcell hl hw
  go_enter Tryz.func91, Tryz.ntmps91
  go_wp2_with (at_make; refine wpList_make_full _ rfl _ _ 37 rfl w.heap.size 5 i0 (.int .u8 0) 1 Tryz.underlying37 hi hz0 hz1 .i64 .i64 _ _ n rfl rfl rfl rfl (by rw [hz2]; omega) (by unfold maxLen; omega) (Nat.le_refl _) ?_; intro w0 hown0 hgrow0; have hb0 := Lib.hid ((Below.refl w.heap.size w).grown hgrow0 (Nat.le_refl _) (fun k hk => by cases hk)); have ho0 := Lib.hid hown0; clear hown0 hgrow0)
  go_loopw [5, 6] (fun o i wr => ∃ k : Nat, k ≤ L.length ∧ i = .int .i64 k ∧ wr.ownsRow w.heap.size 5 1 o n ((sumS n (L.take k)).map byteV) ∧ Below w.heap.size w wr) (fun _ i _ => L.length - (intOf i).toNat)
  case atStart => exact ⟨0, Nat.zero_le _, rfl, by rw [List.take_zero, sumS_nil, List.map_replicate]; have h := ho0.out; rw [Nat.mul_one] at h; exact toList_madeCells_one (.int .u8 0) n ▸ h, hb0.out⟩
  case round =>
    clear hb0 ho0
    obtain ⟨k, hk, rfl, hown, hbel⟩ := hrel
    have hsz := hbel.size
    have HB := Lib.hid hbel
    by_cases hlt : k < L.length
    · obtain ⟨b, off, rfl, hcc⟩ := HC.out (by omega)
      obtain ⟨x, hx, hlx⟩ := hcc k hlt
      have hx1 := (hbel.cell (p := ⟨b, off + k, none⟩) (World.block_lt_of_cell? w _ hx)).trans hx
      have hmem := getD_mem_row hlt
      have hrl := HL.out _ hmem
      have HRL := Lib.hid hrl
      have HRW := Lib.hid (HW.out _ hmem)
      have HS : Hid (sumS n (L.take (k + 1)) = xorW (sumS n (L.take k)) (L.getD k [])) := Lib.hid (by rw [take_succ_row hlt, sumS_snoc hrl])
      have HSO := Lib.hid (sumS_octets (L := L.take k) (fun r hr => HW.out r (List.mem_of_mem_take hr)) n)
      have HSL := Lib.hid (sumS_length n (L.take k))
      have HLX := Lib.hid (hlx.mono hbel)
      have HLO := Lib.hid (ListAt.of_owns hown)
      obtain ⟨ax, cx, rfl, -, -, -⟩ := hlx.bytes n hrl
      obtain ⟨oo, oc, rfl, -, -⟩ := own_open hown
      clear hcc hx hlx hmem hrl hown hbel
      generalize L.getD k [] = r at *
      go_wp2_with fail
      refine (sAdd_any _ _ (sumS n (L.take k)) r n HLO.out HLX.out HSO.out HRW.out HSL.out HRL.out hn).mono ?_
      rintro e w1 ⟨v1, rfl, ho1, hb1⟩
      rw [← HS.out] at ho1
      have HO1 := Lib.hid (ownsRow_base ho1 hsz)
      have HB1 := Lib.hid (HB.out.trans (hb1.mono hsz))
      clear ho1 hb1
      go_wp2
      go_roundw
      case rel => exact ⟨k + 1, by omega, by go_num, HO1.out, HB1.out⟩
      case measure => simp [intOf]; omega
    · have hk' : k = L.length := by omega
      rw [hk', List.take_length] at hown
      have HO := Lib.hid hown
      obtain ⟨oo, oc, rfl, -, -⟩ := own_open hown
      clear hown hbel
      go_wp2
      go_ret
      exact ⟨_, rfl, HO.out, HB.out⟩
end Go.Proofs.YtkhdjjcflbdegaaGreatDoor
end

section
/- Package geyserref04: Picked, Same, Copy. -/
namespace Go.Proofs.YtkhdjjcflbdegaaGreatDoor
open Go.RowKit Go.Extern.Stop Go.Stop Go.Extern

theorem getD_map_cols (cs : List Nat) (L : List (List Nat)) (k : Nat) (h : k < cs.length) : (cs.map fun c => L.getD c []).take (k + 1) = (cs.map fun c => L.getD c []).take k ++ [L.getD (cs.getD k 0) []] := by
  rw [List.take_add_one, List.getElem?_map, List.getElem?_eq_getElem h, List.getD_eq_getElem?_getD (l := cs), List.getElem?_eq_getElem h]
  rfl

set_option maxRecDepth 1000000 in
set_option maxHeartbeats 4000000 in
theorem sPicked_any {w : World} (vc v : Value) (cs : List Nat) (L : List (List Nat)) (hc : ListAt colV w vc cs) (h : MatAt byteV w v L) (hlt : ∀ c ∈ cs, c < L.length) (hcl : cs.length ≤ 6400000) :
    Calls Tryz.prog 92 #[vc, v] w fun e w' => ∃ v', e = .returned v' ∧ MatOwn byteV 5 w.heap.size 37 w' v' (cs.map fun c => L.getD c []) ∧ Below w.heap.size w w' := by
  obtain ⟨i0, hi0, hz0, hz1, hz2⟩ := info_parts info_sym
  have hlen := h.len
  obtain ⟨a, cap, rfl, hcap, -, hcell⟩ := h.opens
  obtain ⟨ca, cc, rfl, -, -, hccell⟩ := hc
  have HC := Lib.hid hcell
  have HD := Lib.hid hccell
  have HLT := Lib.hid hlt
  clear h hcell hccell hlt
  go_enter Tryz.func92, Tryz.ntmps92
  go_wp2
  go_loopw [5, 6] (fun o i wr => ∃ k : Nat, k ≤ cs.length ∧ i = .int .i64 k ∧ MatOwn byteV 5 w.heap.size 37 wr o ((cs.map fun c => L.getD c []).take k) ∧ Below w.heap.size w wr) (fun _ i _ => cs.length - (intOf i).toNat)
  case atStart => exact ⟨0, Nat.zero_le _, rfl, MatOwn.start w (Nat.le_refl _), (Below.refl _ _).alloc (Nat.le_refl _) _⟩
  case round =>
    obtain ⟨k, hk, rfl, ⟨vs, hown, hel⟩, hbel⟩ := hrel
    have hsz := hbel.size
    have HB := Lib.hid hbel
    have HEL := Lib.hid hel
    have hql : ((cs.map fun c => L.getD c []).take k).length = k := by rw [List.length_take, List.length_map]; omega
    have HQ := Lib.hid hql
    have HO := Lib.hid hown
    rw [hql] at HO
    by_cases hlt : k < cs.length
    · obtain ⟨b2, off2, rfl, hc2⟩ := HD.out (by omega)
      obtain ⟨c, hce⟩ : ∃ c, cs.getD k 0 = c := ⟨_, rfl⟩
      have hcx : cs[k] = c := by rw [← hce]; simp [hlt]
      have hcl2 : c < L.length := HLT.out c (by rw [← hcx]; exact List.getElem_mem hlt)
      have hy := hc2 k hlt
      rw [hcx] at hy
      have hy1 : wr.cell? ⟨b2, off2 + k, none⟩ = some (.int .i64 (c : Int)) := (hbel.cell (p := ⟨b2, off2 + k, none⟩) (World.block_lt_of_cell? w _ hy)).trans hy
      obtain ⟨b, off, rfl, hcc⟩ := HC.out (by omega)
      obtain ⟨x, hx, hlx⟩ := hcc c hcl2
      have hx1 := (hbel.cell (p := ⟨b, off + c, none⟩) (World.block_lt_of_cell? w _ hx)).trans hx
      have HEX : Hid (ElAt byteV 5 w.heap.size wr x (L.getD c [])) := Lib.hid (ElAt.old hlx hbel)
      obtain ⟨ax, cx, rfl, -, -, -⟩ := hlx
      have HS := Lib.hid (getD_map_cols cs L k hlt)
      rw [hce] at HS
      clear hc2 hy hcc hx hown hel hbel hql hce hcx
      generalize (L.getD c []).length = ll at *
      generalize hR1 : (cs.map fun c => L.getD c []).take (k + 1) = R1 at HS
      have HR1 := Lib.hid hR1
      clear hR1
      generalize (cs.map fun c => L.getD c []).take k = R0 at *
      go_wp2_with (at_builtin; refine wpList_append_own _ rfl (.tmp 14) (.tmp 22) 46 rfl w.heap.size 37 i0 (.slice none 0 0) 1 24 Tryz.underlying46 hi0 hz0 hz1 hz2 rfl (by decide) u5 k vs rfl (HO.out.alloc _) ⟨wr.heap.size, 0, none⟩ 1 1 [.slice ax ll cx] rfl rfl (cell_one_new _ _ _) (fun x hx => by simp at hx; subst hx; rfl) (by unfold maxLen; omega) (by omega) (by simp; omega) ?_; intro v2 w2 hown1 hgrow1 _; have hb2 := Lib.hid ((HB.out.alloc hsz _).grown hgrow1 (by simp; omega) (fun k hk => (HO.out.lt k hk).1)); have ho2 : Hid (MatOwn byteV 5 w.heap.size 37 w2 v2 (R0 ++ [L.getD c []])) := Lib.hid (MatOwn.app (by decide) (by rw [HQ.out]; exact HO.out) HEL.out HEX.out (by rw [HQ.out]; exact hown1) hgrow1); clear hown1 hgrow1)
      go_roundw
      case rel => exact ⟨k + 1, by omega, by go_num, by rw [HR1.out, HS.out]; exact ho2.out, hb2.out⟩
      case measure => simp [intOf]; omega
    · have hk' : k = cs.length := by omega
      have HM : Hid (MatOwn byteV 5 w.heap.size 37 wr u5 (cs.map fun c => L.getD c [])) := Lib.hid (by
        have h : MatOwn byteV 5 w.heap.size 37 wr u5 ((cs.map fun c => L.getD c []).take k) := ⟨vs, hown, hel⟩
        rwa [List.take_of_length_le (by rw [List.length_map]; omega)] at h)
      obtain ⟨oo, oc, rfl, -, -⟩ := own_open hown
      clear hown hel hbel
      go_wp2
      go_ret
      exact ⟨_, rfl, HM.out, HB.out⟩

set_option maxRecDepth 1000000 in
set_option maxHeartbeats 4000000 in
theorem sSame_any {w : World} (v1 v2 : Value) (L : List (List Nat)) (h1 : MatAt byteV w v1 L) (h2 : MatAt byteV w v2 L) :
    Calls Tryz.prog 24 #[v1, v2] w fun e w' => e = .returned (.bool true) ∧ Below w.heap.size w w' := by
  have hlen := h1.len
  obtain ⟨a1, cap1, rfl, hcap1, -, hcell1⟩ := h1.opens
  obtain ⟨a2, cap2, rfl, hcap2, -, hcell2⟩ := h2.opens
  have HC1 := Lib.hid hcell1
  have HC2 := Lib.hid hcell2
  clear hcell1 hcell2 h1 h2
  go_enter Tryz.func24, Tryz.ntmps24
  go_wp2
  go_loopw [5] (fun i wr => ∃ k : Nat, k ≤ L.length ∧ i = .int .i64 k ∧ Below w.heap.size w wr) (fun i _ => L.length - (intOf i).toNat)
  case atStart => exact ⟨0, Nat.zero_le _, rfl, Below.refl _ _⟩
  case round =>
    obtain ⟨k, hk, rfl, hbel⟩ := hrel
    have HB := Lib.hid hbel
    by_cases hlt : k < L.length
    · obtain ⟨b1, off1, rfl, hc1⟩ := HC1.out (by omega)
      obtain ⟨b2, off2, rfl, hc2⟩ := HC2.out (by omega)
      obtain ⟨x1, hx1, hl1⟩ := hc1 k hlt
      obtain ⟨x2, hx2, hl2⟩ := hc2 k hlt
      have hy1 : wr.cell? ⟨b1, off1 + k, none⟩ = some x1 := (hbel.cell (p := ⟨b1, off1 + k, none⟩) (World.block_lt_of_cell? w _ hx1)).trans hx1
      have hy2 : wr.cell? ⟨b2, off2 + k, none⟩ = some x2 := (hbel.cell (p := ⟨b2, off2 + k, none⟩) (World.block_lt_of_cell? w _ hx2)).trans hx2
      have hk1 : ∀ nd, (convert 37 9 x1).run Tryz.prog (wr.drewN nd) = .ok (.string (strN (L.getD k []))) (wr.drewN nd) := fun nd => ((hl1.mono hbel).mono (below_draws (Below.refl _ _) nd)).str
      have hk2 : ∀ nd, (convert 37 9 x2).run Tryz.prog (wr.drewN nd) = .ok (.string (strN (L.getD k []))) (wr.drewN nd) := fun nd => ((hl2.mono hbel).mono (below_draws (Below.refl _ _) nd)).str
      obtain ⟨xa1, xc1, rfl, -, -, -⟩ := hl1
      obtain ⟨xa2, xc2, rfl, -, -, -⟩ := hl2
      clear hbel hc1 hc2 hx1 hx2
      generalize strN (L.getD k []) = str at *
      generalize (L.getD k []).length = ll at *
      go_wp2
      go_quiet (fail)
      go_wp2
      go_roundw
      case rel => exact ⟨k + 1, by omega, by go_num, below_draws HB.out _⟩
      case measure => simp [intOf]; omega
    · clear hbel
      go_wp2
      go_ret
      exact ⟨rfl, HB.out⟩
end Go.Proofs.YtkhdjjcflbdegaaGreatDoor
end
