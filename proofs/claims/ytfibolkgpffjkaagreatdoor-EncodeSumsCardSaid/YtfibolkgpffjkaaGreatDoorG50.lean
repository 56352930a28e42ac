import Derived.Test.YtfibolkgpffjkaaGreatDoorG27
import Derived.Test.YtfibolkgpffjkaaGreatDoorG11

section
/- Package geyserref04: Add, Check, Sum, Picked, Same, Copy. -/
namespace Go.Proofs.YtfibolkgpffjkaaGreatDoor
open Go.RowKit Go.Extern.Stop Go.Stop Go.Extern

set_option maxRecDepth 1000000 in
theorem sCheck_any {w : World} (v : Value) (L : List (List Nat)) (n : Int) (h : MatAt byteV w v L) (hn : I64 n) :
    Calls Tryz.prog 38 #[v, .int .i64 n] w fun e w' => e = .returned (.int .i64 (checkS L n)) ∧ w = w' := by
  have hlen := h.len
  obtain ⟨a, cap, rfl, hcap, hcm, hcell⟩ := h.opens
  clear h
  obtain ⟨hn0, hn1⟩ := hn
  by_cases h0 : n < 1
  · have HR : Hid (checkS L n = 1) := Lib.hid (by unfold checkS; rw [if_pos (.inl h0)])
    clear hcell
    go_enter Tryz.func38, Tryz.ntmps38
    go_wp2
    go_ret
    exact ⟨by rw [HR.out]; rfl, rfl⟩
  · have h0' : 1 ≤ n := by omega
    by_cases h1 : 64 < n
    · have HR : Hid (checkS L n = 1) := Lib.hid (by unfold checkS; rw [if_pos (.inr h1)])
      clear hcell h0
      go_enter Tryz.func38, Tryz.ntmps38
      go_wp2
      go_ret
      exact ⟨by rw [HR.out]; rfl, rfl⟩
    · have h1' : n ≤ 64 := by omega
      have HR : Hid (∀ b, L.all (fun r => decide ((r.length : Int) = n)) = b → checkS L n = if b then 0 else 2) := Lib.hid fun b e => by
        unfold checkS; rw [if_neg (by omega), e]
      have HC := Lib.hid hcell
      clear hcell h0 h1
      go_enter Tryz.func38, Tryz.ntmps38
      go_wp2
      go_loopw [5] (fun i wr => ∃ k : Nat, k ≤ L.length ∧ i = .int .i64 k ∧ (∀ j, j < k → ((L.getD j []).length : Int) = n) ∧ w = wr) (fun i _ => L.length - (intOf i).toNat)
      case atStart => exact ⟨0, Nat.zero_le _, rfl, fun j hj => by omega, rfl⟩
      case round =>
        obtain ⟨k, hk, rfl, hz, rfl⟩ := hrel
        by_cases hlt : k < L.length
        · obtain ⟨b, off, rfl, hcc⟩ := HC.out (by omega)
          obtain ⟨x, hx, hlx⟩ := hcc k hlt
          have hx' : w.cell? ⟨b, off + k, none⟩ = some x := hx
          have HF : Hid (((L.getD k []).length : Int) ≠ n → L.all (fun r => decide ((r.length : Int) = n)) = false) := Lib.hid fun h => by
            rw [List.all_eq_false]; exact ⟨_, getD_mem_row hlt, by simpa using h⟩
          have HT : Hid (((L.getD k []).length : Int) = n → ∀ j, j < k + 1 → ((L.getD j []).length : Int) = n) := Lib.hid fun h j hj => by
            by_cases e : j = k
            · rw [e]; exact h
            · exact hz j (by omega)
          have hrl := hlx.len
          obtain ⟨ra, rc, rfl, -, -, -⟩ := hlx
          clear hcc hx hz
          generalize (L.getD k []).length = m at *
          by_cases he : (m : Int) = n
          · have hb2 : ((m : Int) != n) = false := by simpa using he
            have hb1 : ((m : Int) == n) = true := by simpa using he
            have HT' := Lib.hid (HT.out he)
            clear HF HT he
            go_wp2
            go_roundw
            case rel => exact ⟨k + 1, by omega, by go_num, HT'.out, trivial⟩
            case measure => simp [intOf]; omega
          · have hb2 : ((m : Int) != n) = true := by simpa using he
            have hb1 : ((m : Int) == n) = false := by simpa using he
            have HF' := Lib.hid (HF.out he)
            clear HF HT he
            go_wp2
            go_ret
            exact ⟨by rw [HR.out _ HF'.out]; rfl, rfl⟩
        · have hk' : k = L.length := by omega
          have HA : Hid (L.all (fun r => decide ((r.length : Int) = n)) = true) := Lib.hid (by
            rw [List.all_eq_true]
            intro r hr
            obtain ⟨j, hj, rfl⟩ := List.getElem_of_mem hr
            have := hz j (by omega)
            simp only [List.getD_eq_getElem?_getD, List.getElem?_eq_getElem hj, Option.getD_some] at this
            exact decide_eq_true this)
          clear hz
          go_wp2
          go_ret
          exact ⟨by rw [HR.out _ HA.out]; rfl, rfl⟩
set_option maxRecDepth 1000000 in
set_option maxHeartbeats 4000000 in
theorem sAdd_any {w : World} (v1 v2 : Value) (xa xb : List Nat) (n : Nat) (h1 : ListAt byteV w v1 xa) (h2 : ListAt byteV w v2 xb) (hw1 : Octets xa) (hw2 : Octets xb) (e1 : xa.length = n) (e2 : xb.length = n) (hlen : n ≤ 281474976710656) :
    Calls Tryz.prog 20 #[v1, v2] w fun e w' => ∃ v', e = .returned v' ∧ w'.ownsRow w.heap.size 5 1 v' n ((xorW xa xb).map byteV) ∧ Below w.heap.size w w' := by
  obtain ⟨i0, hi, hz0, hz1, hz2⟩ := info_parts info_u8
  obtain ⟨a1, cap1, rfl, hcap1, -, hcell1⟩ := h1.bytes n e1
  obtain ⟨a2, cap2, rfl, hcap2, -, hcell2⟩ := h2.bytes n e2
  have HC1 := Lib.hid hcell1
  have HC2 := Lib.hid hcell2
  have HW1 := Lib.hid hw1
  have HW2 := Lib.hid hw2
  have HE : Hid (xa.length = xb.length) := Lib.hid (by omega)
  have HN := Lib.hid e1
  clear hcell1 hcell2 hw1 hw2 h1 h2 e1 e2
  go_enter Tryz.func20, Tryz.ntmps20
  go_wp2_with (at_make; refine wpList_make_full _ rfl _ _ 38 rfl w.heap.size 5 i0 (.int .u8 0) 1 Tryz.underlying38 hi hz0 hz1 .i64 .i64 _ _ n rfl rfl rfl rfl (by rw [hz2]; omega) (by unfold maxLen; omega) (Nat.le_refl _) ?_; intro w0 hown0 hgrow0; have hb0 := Lib.hid ((Below.refl w.heap.size w).grown hgrow0 (Nat.le_refl _) (fun k hk => by cases hk)); have ho0 := Lib.hid hown0; clear hown0 hgrow0)
  go_loopw [6] (fun i wr => ∃ k : Nat, k ≤ n ∧ i = .int .i64 k ∧ (∃ vs : List Nat, vs.length = n ∧ (∀ j, j < k → vs.getD j 0 = xa.getD j 0 ^^^ xb.getD j 0) ∧ wr.ownsRow w.heap.size 5 1 (.slice (some ⟨w.heap.size, 0, none⟩) n n) n (vs.map byteV)) ∧ Below w.heap.size w wr) (fun i _ => n - (intOf i).toNat)
  case atStart => exact ⟨0, Nat.zero_le _, rfl, ⟨List.replicate n 0, by simp, fun j hj => by omega, by rw [List.map_replicate]; have := ho0.out; rw [Nat.mul_one] at this; exact toList_madeCells_one (.int .u8 0) n ▸ this⟩, hb0.out⟩
  case round =>
    obtain ⟨k, hk, rfl, ⟨vs, hvl, hvs, hown⟩, hbel⟩ := hrel
    have hsz := hbel.size
    by_cases hlt : k < n
    · obtain ⟨b1, off1, rfl, hc1⟩ := HC1.out (by omega)
      obtain ⟨b2, off2, rfl, hc2⟩ := HC2.out (by omega)
      have hx1 := hc1 k hlt
      have hx2 := hc2 k hlt
      have hy1 := (hbel.cell (p := ⟨b1, off1 + k, none⟩) (World.block_lt_of_cell? w _ hx1)).trans hx1
      have hy2 := (hbel.cell (p := ⟨b2, off2 + k, none⟩) (World.block_lt_of_cell? w _ hx2)).trans hx2
      have hxlt := HW1.out.getD k
      have hylt := HW2.out.getD k
      have hy3 : wr.cell? ⟨w.heap.size, k, none⟩ = some (.int .u8 ((vs.getD k 0 : Nat) : Int)) := by
        rw [hown.cellAt k (by omega)]
        simp [List.getD_eq_getElem?_getD, hvl, hlt, byteV]
      have hy4 : wr.frozen? ⟨w.heap.size, k, none⟩ = false := hown.frozenAt k
      have hbx := bits_xor_u8_nat (xa.getD k 0) (xb.getD k 0) hxlt hylt
      have HX : Hid (∀ x y, xa.getD k 0 = x → xb.getD k 0 = y → ∀ j, j < k + 1 → (vs.set k (x ^^^ y)).getD j 0 = xa.getD j 0 ^^^ xb.getD j 0) := Lib.hid fun x y ex ey j hj => by
        rw [getD_set _ _ _ _ _ (by omega)]
        by_cases e : j = k
        · subst e; rw [if_pos rfl, ex, ey]
        · rw [if_neg e]; exact hvs j (by omega)
      have HO := Lib.hid hown
      have HB := Lib.hid hbel
      have HL := Lib.hid hvl
      clear hc1 hc2 hx1 hx2 hown hbel hvs hvl hxlt hylt
      generalize xa.getD k 0 = x at hy1 hbx HX
      generalize xb.getD k 0 = y at hy2 hbx HX
      generalize vs.getD k 0 = z at hy3
      go_wp2_with fail
      go_region
      go_wp2
      go_roundw
      case rel => exact ⟨k + 1, by omega, by go_num, ⟨vs.set k (x ^^^ y), by simpa using HL.out, HX.out x y rfl rfl, by rw [List.map_set]; exact (HO.out.stored k (.int .u8 ((x ^^^ y : Nat) : Int))).1⟩, (HB.out.setCell (p := ⟨w.heap.size, k, none⟩) (Nat.le_refl _) _).drew⟩
      case measure => simp [intOf]; omega
    · have hk' : k = n := by omega
      have HO := Lib.hid hown
      have HB := Lib.hid hbel
      have HV : Hid (vs = xorW xa xb) := Lib.hid (by
        apply ext_getD (by rw [xorW_length HE.out, hvl]; exact HN.out.symm)
        intro j hj
        rw [hvs j (by omega), xorW_getD HE.out])
      clear hown hbel hvs hvl
      go_wp2
      go_ret
      exact ⟨_, rfl, by have := HO.out; rw [HV.out] at this; exact this, HB.out⟩

set_option maxRecDepth 1000000 in
set_option maxHeartbeats 4000000 in
theorem sSum_any {w : World} (v : Value) (L : List (List Nat)) (n : Nat) (h : MatAt byteV w v L) (hl : ∀ r ∈ L, r.length = n) (hw : ∀ r ∈ L, Octets r) (hn : n ≤ 281474976710656) :
    Calls Tryz.prog 64 #[v, .int .i64 (n : Int)] w fun e w' => ∃ v', e = .returned v' ∧ w'.ownsRow w.heap.size 5 1 v' n ((sumS n L).map byteV) ∧ Below w.heap.size w w' := by
  obtain ⟨i0, hi, hz0, hz1, hz2⟩ := info_parts info_u8
  have hlen := h.len
  obtain ⟨a, cap, rfl, hcap, hcm, hcell⟩ := h.opens
  have HC := Lib.hid hcell
  have HL := Lib.hid hl
  have HW := Lib.hid hw
  clear h hcell hl hw
  go_enter Tryz.func64, Tryz.ntmps64
  go_wp2_with (at_make; refine wpList_make_full _ rfl _ _ 38 rfl w.heap.size 5 i0 (.int .u8 0) 1 Tryz.underlying38 hi hz0 hz1 .i64 .i64 _ _ n rfl rfl rfl rfl (by rw [hz2]; omega) (by unfold maxLen; omega) (Nat.le_refl _) ?_; intro w0 hown0 hgrow0; have hb0 := Lib.hid ((Below.refl w.heap.size w).grown hgrow0 (Nat.le_refl _) (fun k hk => by cases hk)); have ho0 := Lib.hid hown0; clear hown0 hgrow0)
  go_loopw [5, 6] (fun o i wr => ∃ k : Nat, k ≤ L.length ∧ i = .int .i64 k ∧ wr.ownsRow w.heap.size 5 1 o n ((sumS n (L.take k)).map byteV) ∧ Below w.heap.size w wr) (fun _ i _ => L.length - (intOf i).toNat)
  case atStart => exact ⟨0, Nat.zero_le _, rfl, by rw [List.take_zero, sumS_nil, List.map_replicate]; have h := ho0.out; rw [Nat.mul_one] at h; exact toList_madeCells_one (.int .u8 0) n ▸ h, hb0.out⟩
  case round =>
    clear hb0 ho0
    obtain ⟨k, hk, rfl, hown, hbel⟩ := hrel
    have hsz := hbel.size
    have HB := Lib.hid hbel
    by_cases hlt : k < L.length
    · obtain ⟨b, off, rfl, hcc⟩ := HC.out (by omega)
      obtain ⟨x, hx, hlx⟩ := hcc k hlt
      have hx1 := (hbel.cell (p := ⟨b, off + k, none⟩) (World.block_lt_of_cell? w _ hx)).trans hx
      have hmem := getD_mem_row hlt
      have hrl := HL.out _ hmem
      have HRL := Lib.hid hrl
      have HRW := Lib.hid (HW.out _ hmem)
      have HS : Hid (sumS n (L.take (k + 1)) = xorW (sumS n (L.take k)) (L.getD k [])) := Lib.hid (by rw [take_succ_row hlt, sumS_snoc hrl])
      have HSO := Lib.hid (sumS_octets (L := L.take k) (fun r hr => HW.out r (List.mem_of_mem_take hr)) n)
      have HSL := Lib.hid (sumS_length n (L.take k))
      have HLX := Lib.hid (hlx.mono hbel)
      have HLO := Lib.hid (ListAt.of_owns hown)
      obtain ⟨ax, cx, rfl, -, -, -⟩ := hlx.bytes n hrl
      obtain ⟨oo, oc, rfl, -, -⟩ := own_open hown
      clear hcc hx hlx hmem hrl hown hbel
      generalize L.getD k [] = r at *
      go_wp2_with fail
      refine (sAdd_any _ _ (sumS n (L.take k)) r n HLO.out HLX.out HSO.out HRW.out HSL.out HRL.out hn).mono ?_
      rintro e w1 ⟨v1, rfl, ho1, hb1⟩
      rw [← HS.out] at ho1
      have HO1 := Lib.hid (ownsRow_base ho1 hsz)
      have HB1 := Lib.hid (HB.out.trans (hb1.mono hsz))
      clear ho1 hb1
      go_wp2
      go_roundw
      case rel => exact ⟨k + 1, by omega, by go_num, HO1.out, HB1.out⟩
      case measure => simp [intOf]; omega
    · have hk' : k = L.length := by omega
      rw [hk', List.take_length] at hown
      have HO := Lib.hid hown
      obtain ⟨oo, oc, rfl, -, -⟩ := own_open hown
      clear hown hbel
      go_wp2
      go_ret
      exact ⟨_, rfl, HO.out, HB.out⟩
end Go.Proofs.YtfibolkgpffjkaaGreatDoor
end

section
/- Package geyserref04: Picked, Same, Copy. -/
namespace Go.Proofs.YtfibolkgpffjkaaGreatDoor
open Go.RowKit Go.Extern.Stop Go.Stop Go.Extern

theorem getD_map_cols (cs : List Nat) (L : List (List Nat)) (k : Nat) (h : k < cs.length) : (cs.map fun c => L.getD c []).take (k + 1) = (cs.map fun c => L.getD c []).take k ++ [L.getD (cs.getD k 0) []] := by
  rw [List.take_add_one, List.getElem?_map, List.getElem?_eq_getElem h, List.getD_eq_getElem?_getD (l := cs), List.getElem?_eq_getElem h]
  rfl

set_option maxRecDepth 1000000 in
set_option maxHeartbeats 4000000 in
theorem sPicked_any {w : World} (vc v : Value) (cs : List Nat) (L : List (List Nat)) (hc : ListAt colV w vc cs) (h : MatAt byteV w v L) (hlt : ∀ c ∈ cs, c < L.length) (hcl : cs.length ≤ 6400000) :
    Calls Tryz.prog 65 #[vc, v] w fun e w' => ∃ v', e = .returned v' ∧ MatOwn byteV 5 w.heap.size 38 w' v' (cs.map fun c => L.getD c []) ∧ Below w.heap.size w w' := by
  obtain ⟨i0, hi0, hz0, hz1, hz2⟩ := info_parts info_sym
  have hlen := h.len
  obtain ⟨a, cap, rfl, hcap, -, hcell⟩ := h.opens
  obtain ⟨ca, cc, rfl, -, -, hccell⟩ := hc
  have HC := Lib.hid hcell
  have HD := Lib.hid hccell
  have HLT := Lib.hid hlt
  clear h hcell hccell hlt
  go_enter Tryz.func65, Tryz.ntmps65
  go_wp2
  go_loopw [5, 6] (fun o i wr => ∃ k : Nat, k ≤ cs.length ∧ i = .int .i64 k ∧ MatOwn byteV 5 w.heap.size 38 wr o ((cs.map fun c => L.getD c []).take k) ∧ Below w.heap.size w wr) (fun _ i _ => cs.length - (intOf i).toNat)
  case atStart => exact ⟨0, Nat.zero_le _, rfl, MatOwn.start w (Nat.le_refl _), (Below.refl _ _).alloc (Nat.le_refl _) _⟩
  case round =>
    obtain ⟨k, hk, rfl, ⟨vs, hown, hel⟩, hbel⟩ := hrel
    have hsz := hbel.size
    have HB := Lib.hid hbel
    have HEL := Lib.hid hel
    have hql : ((cs.map fun c => L.getD c []).take k).length = k := by rw [List.length_take, List.length_map]; omega
    have HQ := Lib.hid hql
    have HO := Lib.hid hown
    rw [hql] at HO
    by_cases hlt : k < cs.length
    · obtain ⟨b2, off2, rfl, hc2⟩ := HD.out (by omega)
      obtain ⟨c, hce⟩ : ∃ c, cs.getD k 0 = c := ⟨_, rfl⟩
      have hcx : cs[k] = c := by rw [← hce]; simp [hlt]
      have hcl2 : c < L.length := HLT.out c (by rw [← hcx]; exact List.getElem_mem hlt)
      have hy := hc2 k hlt
      rw [hcx] at hy
      have hy1 : wr.cell? ⟨b2, off2 + k, none⟩ = some (.int .i64 (c : Int)) := (hbel.cell (p := ⟨b2, off2 + k, none⟩) (World.block_lt_of_cell? w _ hy)).trans hy
      obtain ⟨b, off, rfl, hcc⟩ := HC.out (by omega)
      obtain ⟨x, hx, hlx⟩ := hcc c hcl2
      have hx1 := (hbel.cell (p := ⟨b, off + c, none⟩) (World.block_lt_of_cell? w _ hx)).trans hx
      have HEX : Hid (ElAt byteV 5 w.heap.size wr x (L.getD c [])) := Lib.hid (ElAt.old hlx hbel)
      obtain ⟨ax, cx, rfl, -, -, -⟩ := hlx
      have HS := Lib.hid (getD_map_cols cs L k hlt)
      rw [hce] at HS
      clear hc2 hy hcc hx hown hel hbel hql hce hcx
      generalize (L.getD c []).length = ll at *
      generalize hR1 : (cs.map fun c => L.getD c []).take (k + 1) = R1 at HS
      have HR1 := Lib.hid hR1
      clear hR1
      generalize (cs.map fun c => L.getD c []).take k = R0 at *
      go_wp2_with (at_builtin; refine wpList_append_own _ rfl (.tmp 14) (.tmp 22) 22 rfl w.heap.size 38 i0 (.slice none 0 0) 1 24 Tryz.underlying22 hi0 hz0 hz1 hz2 rfl (by decide) u5 k vs rfl (HO.out.alloc _) ⟨wr.heap.size, 0, none⟩ 1 1 [.slice ax ll cx] rfl rfl (cell_one_new _ _ _) (fun x hx => by simp at hx; subst hx; rfl) (by unfold maxLen; omega) (by omega) (by simp; omega) ?_; intro v2 w2 hown1 hgrow1 _; have hb2 := Lib.hid ((HB.out.alloc hsz _).grown hgrow1 (by simp; omega) (fun k hk => (HO.out.lt k hk).1)); have ho2 : Hid (MatOwn byteV 5 w.heap.size 38 w2 v2 (R0 ++ [L.getD c []])) := Lib.hid (MatOwn.app (by decide) (by rw [HQ.out]; exact HO.out) HEL.out HEX.out (by rw [HQ.out]; exact hown1) hgrow1); clear hown1 hgrow1)
      go_roundw
      case rel => exact ⟨k + 1, by omega, by go_num, by rw [HR1.out, HS.out]; exact ho2.out, hb2.out⟩
      case measure => simp [intOf]; omega
    · have hk' : k = cs.length := by omega
      have HM : Hid (MatOwn byteV 5 w.heap.size 38 wr u5 (cs.map fun c => L.getD c [])) := Lib.hid (by
        have h : MatOwn byteV 5 w.heap.size 38 wr u5 ((cs.map fun c => L.getD c []).take k) := ⟨vs, hown, hel⟩
        rwa [List.take_of_length_le (by rw [List.length_map]; omega)] at h)
      obtain ⟨oo, oc, rfl, -, -⟩ := own_open hown
      clear hown hel hbel
      go_wp2
      go_ret
      exact ⟨_, rfl, HM.out, HB.out⟩

set_option maxRecDepth 1000000 in
set_option maxHeartbeats 4000000 in
theorem sCopy_any {w : World} (v : Value) (L : List (List Nat)) (h : MatAt byteV w v L) (hL : L.length * 24 ≤ reachBytes) (hR : ∀ r ∈ L, r.length * 1 ≤ reachBytes) :
    Calls Tryz.prog 19 #[v] w fun e w' => ∃ v', e = .returned v' ∧ MatOwn byteV 5 w.heap.size 38 w' v' L ∧ Below w.heap.size w w' := by
  obtain ⟨i0, hi0, hz0, hz1, hz2⟩ := info_parts info_sym
  obtain ⟨j0, hj0, jz0, jz1, jz2⟩ := info_parts info_u8
  have hL2 : L.length * 24 ≤ 140737488351232 := by have := hL; unfold reachBytes at this; omega
  have HR : Hid (∀ k, (L.getD k []).length ≤ 140737488351232) := Lib.hid fun k => by
    by_cases hk : k < L.length
    · have := hR _ (getD_mem_row hk); unfold reachBytes at this; omega
    · rw [List.getD_eq_getElem?_getD, List.getElem?_eq_none (by omega)]; simp
  obtain ⟨a, cap, rfl, hcap, -, hcell⟩ := h.opens
  have HC := Lib.hid hcell
  clear h hcell hL hR
  go_enter Tryz.func19, Tryz.ntmps19
  go_wp2
  go_loopw [3, 4] (fun o i wr => ∃ k : Nat, k ≤ L.length ∧ i = .int .i64 k ∧ MatOwn byteV 5 w.heap.size 38 wr o (L.take k) ∧ Below w.heap.size w wr) (fun _ i _ => L.length - (intOf i).toNat)
  case atStart => exact ⟨0, Nat.zero_le _, rfl, MatOwn.start w (Nat.le_refl _), (Below.refl _ _).alloc (Nat.le_refl _) _⟩
  case round =>
    obtain ⟨wo, hwo⟩ : ∃ wo, wo = wr := ⟨_, rfl⟩
    subst hwo
    obtain ⟨k, hk, rfl, ⟨vs, hown, hel⟩, hbel⟩ := hrel
    have hsz := hbel.size
    have HB := Lib.hid hbel
    have HEL := Lib.hid hel
    have hql : (L.take k).length = k := by rw [List.length_take]; omega
    have HQ := Lib.hid hql
    have HO := Lib.hid hown
    rw [hql] at HO
    by_cases hlt : k < L.length
    · obtain ⟨b, off, rfl, hcc⟩ := HC.out (by omega)
      obtain ⟨x, hx, hlx⟩ := hcc k hlt
      have hx1 := (hbel.cell (p := ⟨b, off + k, none⟩) (World.block_lt_of_cell? w _ hx)).trans hx
      have hrl := HR.out k
      have HBp := Lib.hid ((Below.refl wo.heap.size wo).alloc (Nat.le_refl _) (.cells #[] 5))
      have HOp := Lib.hid (World.ownsRow_made (base := w.heap.size) (e := 5) (size := 1) wo #[] 0 hsz (by decide) rfl)
      have HOq := Lib.hid (World.ownsRow_made (base := wo.heap.size) (e := 5) (size := 1) wo #[] 0 (Nat.le_refl _) (by decide) rfl)
      have hx2 : (wo.alloc (.cells #[] 5)).cell? ⟨b, off + k, none⟩ = some x := (HBp.out.cell (p := ⟨b, off + k, none⟩) (World.block_lt_of_cell? wo _ hx1)).trans hx1
      have HLX := Lib.hid ((hlx.mono hbel).mono HBp.out)
      have HS := Lib.hid (take_succ_row hlt)
      obtain ⟨ax, cx, rfl, -, -, -⟩ := hlx
      clear hcc hx hown hel hbel hql
      generalize L.getD k [] = r at *
      generalize hr : r.length = ll at *
      have HRL := Lib.hid hr
      clear hr
      go_wp2_with (first
        | (at_builtin; refine wpList_append_of (f := byteV) _ rfl (.tmp 13) (.tmp 17) 38 rfl w.heap.size 5 j0 (.int .u8 0) 1 Tryz.underlying38 hj0 jz0 jz1 jz2 rfl _ 0 [] rfl HOp.out _ r rfl HLX.out (fun y _ => rfl) (by rw [HRL.out]; unfold maxLen; omega) (by rw [HRL.out]; omega) (by simp; omega) ?_; intro op wA hownA hgrowA; have HBA := Lib.hid (HBp.out.grown hgrowA (by simp) (fun k hk => (HOq.out.lt k hk).1)); rw [HRL.out, Nat.zero_add, List.nil_append] at hownA; have HOA := Lib.hid hownA; obtain ⟨oa, oc, rfl, -, -⟩ := own_open hownA; clear hownA hgrowA)
        | (at_builtin; refine wpList_append_own _ rfl (.tmp 12) (.tmp 19) 22 rfl w.heap.size 38 i0 (.slice none 0 0) 1 24 Tryz.underlying22 hi0 hz0 hz1 hz2 rfl (by decide) u3 k vs rfl ((owns_kept HO.out HBA.out).alloc _) ⟨wA.heap.size, 0, none⟩ 1 1 [.slice oa ll oc] rfl rfl (cell_one_new _ _ _) (fun x hx => by simp at hx; subst hx; rfl) (by unfold maxLen; omega) (by omega) (by have := HBA.out.size; simp; omega) ?_; intro v3 w3 hown1 hgrow1 _; have hb3 := Lib.hid (((HB.out.trans (HBA.out.mono hsz)).alloc (Nat.le_trans hsz HBA.out.size) _).grown hgrow1 (by have := HBA.out.size; simp; omega) (fun k hk => (HO.out.lt k hk).1)); have ho3 : Hid (MatOwn byteV 5 w.heap.size 38 w3 v3 (L.take k ++ [r])) := Lib.hid (MatOwn.app (by decide) (by rw [HQ.out]; exact owns_kept HO.out HBA.out) (fun i => (HEL.out i).mono HBA.out) (ElAt.own (f := byteV) HOA.out) (by rw [HQ.out]; exact hown1) hgrow1); clear hown1 hgrow1))
      go_roundw
      case rel => exact ⟨k + 1, by omega, by go_num, by rw [HS.out]; exact ho3.out, hb3.out⟩
      case measure => simp [intOf]; omega
    · have hk' : k = L.length := by omega
      have HM : Hid (MatOwn byteV 5 w.heap.size 38 wo u3 L) := Lib.hid (by
        have h : MatOwn byteV 5 w.heap.size 38 wo u3 (L.take k) := ⟨vs, hown, hel⟩
        rwa [hk', List.take_length] at h)
      obtain ⟨oo, oc, rfl, -, -⟩ := own_open hown
      clear hown hel hbel
      go_wp2
      go_ret
      exact ⟨_, rfl, HM.out, HB.out⟩
end Go.Proofs.YtfibolkgpffjkaaGreatDoor
end
