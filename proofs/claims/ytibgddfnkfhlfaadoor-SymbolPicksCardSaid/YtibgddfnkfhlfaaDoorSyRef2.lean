/- Package geyserref04: Add, Check, Sum, Picked, Same, Copy. -/
import Derived.Test.YtibgddfnkfhlfaaDoorSyRef
import Derived.Test.YtibgddfnkfhlfaaDoorStepAppend
namespace Go.Proofs.YtibgddfnkfhlfaaDoor
open Go.RowKit Go.Extern.Stop Go.Stop Go.Extern

set_option maxRecDepth 1000000 in
theorem sCheck_any {w : World} (v : Value) (L : List (List Nat)) (n : Int) (h : MatAt byteV w v L) (hn : I64 n) :
    Calls Tryd.prog 13 #[v, .int .i64 n] w fun e w' => e = .returned (.int .i64 (checkS L n)) ∧ w = w' := by
  have hlen := h.len
  obtain ⟨a, cap, rfl, hcap, hcm, hcell⟩ := h.opens
  clear h
  obtain ⟨hn0, hn1⟩ := hn
  by_cases h0 : n < 1
  · have HR : Hid (checkS L n = 1) := Lib.hid (by unfold checkS; rw [if_pos (.inl h0)])
    clear hcell
    go_enter Tryd.func13, Tryd.ntmps13
    go_wp2
    go_ret
    exact ⟨by rw [HR.out]; rfl, rfl⟩
  · have h0' : 1 ≤ n := by omega
    by_cases h1 : 64 < n
    · have HR : Hid (checkS L n = 1) := Lib.hid (by unfold checkS; rw [if_pos (.inr h1)])
      clear hcell h0
      go_enter Tryd.func13, Tryd.ntmps13
      go_wp2
      go_ret
      exact ⟨by rw [HR.out]; rfl, rfl⟩
    · have h1' : n ≤ 64 := by omega
      have HR : Hid (∀ b, L.all (fun r => decide ((r.length : Int) = n)) = b → checkS L n = if b then 0 else 2) := Lib.hid fun b e => by
        unfold checkS; rw [if_neg (by omega), e]
      have HC := Lib.hid hcell
      clear hcell h0 h1
      go_enter Tryd.func13, Tryd.ntmps13
      go_wp2
      go_loopw [5] (fun i wr => ∃ k : Nat, k ≤ L.length ∧ i = .int .i64 k ∧ (∀ j, j < k → ((L.getD j []).length : Int) = n) ∧ w = wr) (fun i _ => L.length - (intOf i).toNat)
      case atStart => exact ⟨0, Nat.zero_le _, rfl, fun j hj => by omega, rfl⟩
      case round =>
        obtain ⟨k, hk, rfl, hz, rfl⟩ := hrel
        by_cases hlt : k < L.length
        · obtain ⟨b, off, rfl, hcc⟩ := HC.out (by omega)
          obtain ⟨x, hx, hlx⟩ := hcc k hlt
          have hx' : w.cell? ⟨b, off + k, none⟩ = some x := hx
          have HF : Hid (((L.getD k []).length : Int) ≠ n → L.all (fun r => decide ((r.length : Int) = n)) = false) := Lib.hid fun h => by
            rw [List.all_eq_false]; exact ⟨_, getD_mem_row hlt, by simpa using h⟩
          have HT : Hid (((L.getD k []).length : Int) = n → ∀ j, j < k + 1 → ((L.getD j []).length : Int) = n) := Lib.hid fun h j hj => by
            by_cases e : j = k
            · rw [e]; exact h
            · exact hz j (by omega)
          have hrl := hlx.len
          obtain ⟨ra, rc, rfl, -, -, -⟩ := hlx
          clear hcc hx hz
          generalize (L.getD k []).length = m at *
          by_cases he : (m : Int) = n
          · have hb2 : ((m : Int) != n) = false := by simpa using he
            have hb1 : ((m : Int) == n) = true := by simpa using he
            have HT' := Lib.hid (HT.out he)
            clear HF HT he
            go_wp2
            go_roundw
            case rel => exact ⟨k + 1, by omega, by go_num, HT'.out, trivial⟩
            case measure => simp [intOf]; omega
          · have hb2 : ((m : Int) != n) = true := by simpa using he
            have hb1 : ((m : Int) == n) = false := by simpa using he
            have HF' := Lib.hid (HF.out he)
            clear HF HT he
            go_wp2
            go_ret
            exact ⟨by rw [HR.out _ HF'.out]; rfl, rfl⟩
        · have hk' : k = L.length := by omega
          have HA : Hid (L.all (fun r => decide ((r.length : Int) = n)) = true) := Lib.hid (by
            rw [List.all_eq_true]
            intro r hr
            obtain ⟨j, hj, rfl⟩ := List.getElem_of_mem hr
            have := hz j (by omega)
            simp only [List.getD_eq_getElem?_getD, List.getElem?_eq_getElem hj, Option.getD_some] at this
            exact decide_eq_true this)
          clear hz
          go_wp2
          go_ret
          exact ⟨by rw [HR.out _ HA.out]; rfl, rfl⟩
set_option maxRecDepth 1000000 in
set_option maxHeartbeats 4000000 in
theorem sAdd_any {w : World} (v1 v2 : Value) (xa xb : List Nat) (n : Nat) (h1 : ListAt byteV w v1 xa) (h2 : ListAt byteV w v2 xb) (hw1 : Octets xa) (hw2 : Octets xb) (e1 : xa.length = n) (e2 : xb.length = n) (hlen : n ≤ 281474976710656) :
    Calls Tryd.prog 10 #[v1, v2] w fun e w' => ∃ v', e = .returned v' ∧ w'.ownsRow w.heap.size 5 1 v' n ((xorW xa xb).map byteV) ∧ Below w.heap.size w w' := by
  obtain ⟨i0, hi, hz0, hz1, hz2⟩ := info_parts info_u8
  obtain ⟨a1, cap1, rfl, hcap1, -, hcell1⟩ := h1.bytes n e1
  obtain ⟨a2, cap2, rfl, hcap2, -, hcell2⟩ := h2.bytes n e2
  have HC1 := Lib.hid hcell1
  have HC2 := Lib.hid hcell2
  have HW1 := Lib.hid hw1
  have HW2 := Lib.hid hw2
  have HE : Hid (xa.length = xb.length) := Lib.hid (by omega)
  have HN := Lib.hid e1
  clear hcell1 hcell2 hw1 hw2 h1 h2 e1 e2
  go_enter Tryd.func10, Tryd.ntmps10
  go_wp2_with (at_make; refine wpList_make_full _ rfl _ _ 22 rfl w.heap.size 5 i0 (.int .u8 0) 1 Tryd.underlying22 hi hz0 hz1 .i64 .i64 _ _ n rfl rfl rfl rfl (by rw [hz2]; omega) (by unfold maxLen; omega) (Nat.le_refl _) ?_; intro w0 hown0 hgrow0; have hb0 := Lib.hid ((Below.refl w.heap.size w).grown hgrow0 (Nat.le_refl _) (fun k hk => by cases hk)); have ho0 := Lib.hid hown0; clear hown0 hgrow0)
  go_loopw [6] (fun i wr => ∃ k : Nat, k ≤ n ∧ i = .int .i64 k ∧ (∃ vs : List Nat, vs.length = n ∧ (∀ j, j < k → vs.getD j 0 = xa.getD j 0 ^^^ xb.getD j 0) ∧ wr.ownsRow w.heap.size 5 1 (.slice (some ⟨w.heap.size, 0, none⟩) n n) n (vs.map byteV)) ∧ Below w.heap.size w wr) (fun i _ => n - (intOf i).toNat)
  case atStart => exact ⟨0, Nat.zero_le _, rfl, ⟨List.replicate n 0, by simp, fun j hj => by omega, by rw [List.map_replicate]; have := ho0.out; rw [Nat.mul_one] at this; exact toList_madeCells_one (.int .u8 0) n ▸ this⟩, hb0.out⟩
  case round =>
    obtain ⟨k, hk, rfl, ⟨vs, hvl, hvs, hown⟩, hbel⟩ := hrel
    have hsz := hbel.size
    by_cases hlt : k < n
    · obtain ⟨b1, off1, rfl, hc1⟩ := HC1.out (by omega)
      obtain ⟨b2, off2, rfl, hc2⟩ := HC2.out (by omega)
      have hx1 := hc1 k hlt
      have hx2 := hc2 k hlt
      have hy1 := (hbel.cell (p := ⟨b1, off1 + k, none⟩) (World.block_lt_of_cell? w _ hx1)).trans hx1
      have hy2 := (hbel.cell (p := ⟨b2, off2 + k, none⟩) (World.block_lt_of_cell? w _ hx2)).trans hx2
      have hxlt := HW1.out.getD k
      have hylt := HW2.out.getD k
      have hy3 : wr.cell? ⟨w.heap.size, k, none⟩ = some (.int .u8 ((vs.getD k 0 : Nat) : Int)) := by
        rw [hown.cellAt k (by omega)]
        simp [List.getD_eq_getElem?_getD, hvl, hlt, byteV]
      have hy4 : wr.frozen? ⟨w.heap.size, k, none⟩ = false := hown.frozenAt k
      have hbx := bits_xor_u8_nat (xa.getD k 0) (xb.getD k 0) hxlt hylt
      have HX : Hid (∀ x y, xa.getD k 0 = x → xb.getD k 0 = y → ∀ j, j < k + 1 → (vs.set k (x ^^^ y)).getD j 0 = xa.getD j 0 ^^^ xb.getD j 0) := Lib.hid fun x y ex ey j hj => by
        rw [getD_set _ _ _ _ _ (by omega)]
        by_cases e : j = k
        · subst e; rw [if_pos rfl, ex, ey]
        · rw [if_neg e]; exact hvs j (by omega)
      have HO := Lib.hid hown
      have HB := Lib.hid hbel
      have HL := Lib.hid hvl
      clear hc1 hc2 hx1 hx2 hown hbel hvs hvl hxlt hylt
      generalize xa.getD k 0 = x at hy1 hbx HX
      generalize xb.getD k 0 = y at hy2 hbx HX
      generalize vs.getD k 0 = z at hy3
      go_wp2_with fail
      go_region
      go_wp2
      go_roundw
      case rel => exact ⟨k + 1, by omega, by go_num, ⟨vs.set k (x ^^^ y), by simpa using HL.out, HX.out x y rfl rfl, by rw [List.map_set]; exact (HO.out.stored k (.int .u8 ((x ^^^ y : Nat) : Int))).1⟩, (HB.out.setCell (p := ⟨w.heap.size, k, none⟩) (Nat.le_refl _) _).drew⟩
      case measure => simp [intOf]; omega
    · have hk' : k = n := by omega
      have HO := Lib.hid hown
      have HB := Lib.hid hbel
      have HV : Hid (vs = xorW xa xb) := Lib.hid (by
        apply ext_getD (by rw [xorW_length HE.out, hvl]; exact HN.out.symm)
        intro j hj
        rw [hvs j (by omega), xorW_getD HE.out])
      clear hown hbel hvs hvl
      go_wp2
      go_ret
      exact ⟨_, rfl, by have := HO.out; rw [HV.out] at this; exact this, HB.out⟩

set_option maxRecDepth 1000000 in
set_option maxHeartbeats 4000000 in
theorem sSum_any {w : World} (v : Value) (L : List (List Nat)) (n : Nat) (h : MatAt byteV w v L) (hl : ∀ r ∈ L, r.length = n) (hw : ∀ r ∈ L, Octets r) (hn : n ≤ 281474976710656) :
    Calls Tryd.prog 15 #[v, .int .i64 (n : Int)] w fun e w' => ∃ v', e = .returned v' ∧ w'.ownsRow w.heap.size 5 1 v' n ((sumB n L).map byteV) ∧ Below w.heap.size w w' := by
  obtain ⟨i0, hi, hz0, hz1, hz2⟩ := info_parts info_u8
  have hlen := h.len
  obtain ⟨a, cap, rfl, hcap, hcm, hcell⟩ := h.opens
  have HC := Lib.hid hcell
  have HL := Lib.hid hl
  have HW := Lib.hid hw
  clear h hcell hl hw
  go_enter Tryd.func15, Tryd.ntmps15
  go_wp2_with (at_make; refine wpList_make_full _ rfl _ _ 22 rfl w.heap.size 5 i0 (.int .u8 0) 1 Tryd.underlying22 hi hz0 hz1 .i64 .i64 _ _ n rfl rfl rfl rfl (by rw [hz2]; omega) (by unfold maxLen; omega) (Nat.le_refl _) ?_; intro w0 hown0 hgrow0; have hb0 := Lib.hid ((Below.refl w.heap.size w).grown hgrow0 (Nat.le_refl _) (fun k hk => by cases hk)); have ho0 := Lib.hid hown0; clear hown0 hgrow0)
  go_loopw [5, 6] (fun o i wr => ∃ k : Nat, k ≤ L.length ∧ i = .int .i64 k ∧ wr.ownsRow w.heap.size 5 1 o n ((sumB n (L.take k)).map byteV) ∧ Below w.heap.size w wr) (fun _ i _ => L.length - (intOf i).toNat)
  case atStart => exact ⟨0, Nat.zero_le _, rfl, by rw [List.take_zero, sumB_nil, List.map_replicate]; have h := ho0.out; rw [Nat.mul_one] at h; exact toList_madeCells_one (.int .u8 0) n ▸ h, hb0.out⟩
  case round =>
    clear hb0 ho0
    obtain ⟨k, hk, rfl, hown, hbel⟩ := hrel
    have hsz := hbel.size
    have HB := Lib.hid hbel
    by_cases hlt : k < L.length
    · obtain ⟨b, off, rfl, hcc⟩ := HC.out (by omega)
      obtain ⟨x, hx, hlx⟩ := hcc k hlt
      have hx1 := (hbel.cell (p := ⟨b, off + k, none⟩) (World.block_lt_of_cell? w _ hx)).trans hx
      have hmem := getD_mem_row hlt
      have hrl := HL.out _ hmem
      have HRL := Lib.hid hrl
      have HRW := Lib.hid (HW.out _ hmem)
      have HS : Hid (sumB n (L.take (k + 1)) = xorW (sumB n (L.take k)) (L.getD k [])) := Lib.hid (by rw [take_succ_row hlt, sumB_snoc hrl])
      have HSO := Lib.hid (sumB_octets (L := L.take k) (fun r hr => HW.out r (List.mem_of_mem_take hr)) n)
      have HSL := Lib.hid (sumB_length n (L.take k))
      have HLX := Lib.hid (hlx.mono hbel)
      have HLO := Lib.hid (ListAt.of_owns hown)
      obtain ⟨ax, cx, rfl, -, -, -⟩ := hlx.bytes n hrl
      obtain ⟨oo, oc, rfl, -, -⟩ := own_open hown
      clear hcc hx hlx hmem hrl hown hbel
      generalize L.getD k [] = r at *
      go_wp2_with fail
      refine (sAdd_any _ _ (sumB n (L.take k)) r n HLO.out HLX.out HSO.out HRW.out HSL.out HRL.out hn).mono ?_
      rintro e w1 ⟨v1, rfl, ho1, hb1⟩
      rw [← HS.out] at ho1
      have HO1 := Lib.hid (ownsRow_base ho1 hsz)
      have HB1 := Lib.hid (HB.out.trans (hb1.mono hsz))
      clear ho1 hb1
      go_wp2
      go_roundw
      case rel => exact ⟨k + 1, by omega, by go_num, HO1.out, HB1.out⟩
      case measure => simp [intOf]; omega
    · have hk' : k = L.length := by omega
      rw [hk', List.take_length] at hown
      have HO := Lib.hid hown
      obtain ⟨oo, oc, rfl, -, -⟩ := own_open hown
      clear hown hbel
      go_wp2
      go_ret
      exact ⟨_, rfl, HO.out, HB.out⟩
end Go.Proofs.YtibgddfnkfhlfaaDoor
