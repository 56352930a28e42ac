/- Package symbol: wrong, added. -/

import Derived.Test.YtnkkaggepokjeaaDoorSyMath

import Derived.Test.YtnkkaggepokjeaaDoorSyErr

import Derived.Test.YtnkkaggepokjeaaDoorPkHas

import Derived.WalkSpells

import Derived.WalkLawsBesides

import Derived.Laws.CopyOwn

namespace Go.Proofs.YtnkkaggepokjeaaDoor

open Go.RowKit Go.Extern.Stop Go.Stop Go.Extern

theorem ListAt.bytes {w : World} {v : Value} {l : List Nat} (h : ListAt byteV w v l) (n : Nat) (hn : l.length = n) :
    ∃ a cap, v = .slice a n cap ∧ n ≤ cap ∧ cap ≤ maxLen ∧ (0 < n → ∃ b off, a = some ⟨b, off, none⟩ ∧ ∀ j, j < n → w.cell? ⟨b, off + j, none⟩ = some (.int .u8 ((l.getD j 0 : Nat) : Int))) := by
  subst hn
  obtain ⟨a, cap, rfl, hc, hm, h⟩ := h
  refine ⟨a, cap, rfl, hc, hm, fun hp => ?_⟩
  obtain ⟨b, off, rfl, hcell⟩ := h hp
  refine ⟨b, off, rfl, fun j hj => ?_⟩
  rw [hcell j hj, List.getD_eq_getElem?_getD, List.getElem?_eq_getElem hj]
  rfl

theorem own_full {w : World} {base n g : Nat} {e : TypeId} {xs : List Value} (h : w.ownsRow base e 1 (.slice (some ⟨g, 0, none⟩) n n) n xs) : base ≤ g ∧ xs.length = n ∧ w.heap[g]? = some (.cells xs.toArray e (0, 0)) := by
  have h1 := h.1
  rcases h.2 with ⟨e1, _⟩ | ⟨g', cap, cur, e1, hb, hg, hc, hm, hs, ht⟩
  · cases e1
  · obtain ⟨rfl, rfl⟩ : g = g' ∧ n = cap := by simpa using e1
    refine ⟨hb, by omega, ?_⟩
    rw [hg]
    have : cur.toList = xs := by
      rw [← ht, List.take_of_length_le (by simp; omega)]
    rw [← this]
theorem own_of_heap {w : World} {base n g : Nat} {e : TypeId} {xs : List Value} (hb : base ≤ g) (hl : xs.length = n) (hm : n ≤ maxLen) (h : w.heap[g]? = some (.cells xs.toArray e (0, 0))) : w.ownsRow base e 1 (.slice (some ⟨g, 0, none⟩) n n) n xs :=
  ⟨by omega, .inr ⟨g, n, xs.toArray, rfl, hb, h, Nat.le_refl _, hm, by simp; omega, by rw [List.take_of_length_le (by simp; omega)]⟩⟩
theorem splice_all {α : Type} {L cs : List α} (h : cs.length = L.length) : splice L 0 cs = cs := by
  unfold splice
  rw [List.drop_of_length_le (by omega)]
  simp
theorem take_succ_row {L : List (List Nat)} {k : Nat} (h : k < L.length) : L.take (k + 1) = L.take k ++ [L.getD k []] := by
  rw [List.take_add_one, List.getD_eq_getElem?_getD, List.getElem?_eq_getElem h]; rfl

set_option maxRecDepth 1000000 in
theorem wrong_any {w : World} (v : Value) (L : List (List Nat)) (n : Int) (h : MatAt byteV w v L) (hn : I64 n) :
    Calls Tryd.prog 72 #[v, .int .i64 n] w fun e w' => e = .returned (.int .i64 (checkS L n)) ∧ w = w' := by
  have hlen := h.len
  obtain ⟨a, cap, rfl, hcap, hcm, hcell⟩ := h.opens
  clear h
  obtain ⟨hn0, hn1⟩ := hn
  by_cases h0 : n < 1
  · have HR : Hid (checkS L n = 1) := Lib.hid (by unfold checkS; rw [if_pos (.inl h0)])
    clear hcell
    go_enter Tryd.func72, Tryd.ntmps72
    go_wp2
    go_ret
    exact ⟨by rw [HR.out]; rfl, rfl⟩
  · have h0' : 1 ≤ n := by omega
    by_cases h1 : 64 < n
    · have HR : Hid (checkS L n = 1) := Lib.hid (by unfold checkS; rw [if_pos (.inr h1)])
      clear hcell h0
      go_enter Tryd.func72, Tryd.ntmps72
      go_wp2
      go_ret
      exact ⟨by rw [HR.out]; rfl, rfl⟩
    · have h1' : n ≤ 64 := by omega
      have HR : Hid (∀ b, L.all (fun r => decide ((r.length : Int) = n)) = b → checkS L n = if b then 0 else 2) := Lib.hid fun b e => by
        unfold checkS; rw [if_neg (by omega), e]
      have HC := Lib.hid hcell
      clear hcell h0 h1
      go_enter Tryd.func72, Tryd.ntmps72
      go_wp2
      go_loopw [15] (fun i wr => ∃ k : Nat, k ≤ L.length ∧ i = .int .i64 k ∧ (∀ j, j < k → ((L.getD j []).length : Int) = n) ∧ w = wr) (fun i _ => L.length - (intOf i).toNat)
      case atStart => exact ⟨0, Nat.zero_le _, rfl, fun j hj => by omega, rfl⟩
      case round =>
        obtain ⟨k, hk, rfl, hz, rfl⟩ := hrel
        by_cases hlt : k < L.length
        · obtain ⟨b, off, rfl, hcc⟩ := HC.out (by omega)
          obtain ⟨x, hx, hlx⟩ := hcc k hlt
          have hx' : w.cell? ⟨b, off + k, none⟩ = some x := hx
          have HF : Hid (((L.getD k []).length : Int) ≠ n → L.all (fun r => decide ((r.length : Int) = n)) = false) := Lib.hid fun h => by
            rw [List.all_eq_false]; exact ⟨_, getD_mem_row hlt, by simpa using h⟩
          have HT : Hid (((L.getD k []).length : Int) = n → ∀ j, j < k + 1 → ((L.getD j []).length : Int) = n) := Lib.hid fun h j hj => by
            by_cases e : j = k
            · rw [e]; exact h
            · exact hz j (by omega)
          have hrl := hlx.len
          obtain ⟨ra, rc, rfl, -, -, -⟩ := hlx
          clear hcc hx hz
          generalize (L.getD k []).length = m at *
          by_cases he : (m : Int) = n
          · have hb2 : ((m : Int) != n) = false := by simpa using he
            have hb1 : ((m : Int) == n) = true := by simpa using he
            have HT' := Lib.hid (HT.out he)
            clear HF HT he
            go_wp2
            go_roundw
            case rel => exact ⟨k + 1, by omega, by go_num, HT'.out, trivial⟩
            case measure => simp [intOf]; omega
          · have hb2 : ((m : Int) != n) = true := by simpa using he
            have hb1 : ((m : Int) == n) = false := by simpa using he
            have HF' := Lib.hid (HF.out he)
            clear HF HT he
            go_wp2
            go_ret
            exact ⟨by rw [HR.out _ HF'.out]; rfl, rfl⟩
        · have hk' : k = L.length := by omega
          have HA : Hid (L.all (fun r => decide ((r.length : Int) = n)) = true) := Lib.hid (by
            rw [List.all_eq_true]
            intro r hr
            obtain ⟨j, hj, rfl⟩ := List.getElem_of_mem hr
            have := hz j (by omega)
            simp only [List.getD_eq_getElem?_getD, List.getElem?_eq_getElem hj, Option.getD_some] at this
            exact decide_eq_true this)
          clear hz
          go_wp2
          go_ret
          exact ⟨by rw [HR.out _ HA.out]; rfl, rfl⟩

set_option maxRecDepth 1000000 in
set_option maxHeartbeats 4000000 in
/-- The sum of symbols of n bytes, in new memory. -/
theorem added_any {w : World} (v : Value) (L : List (List Nat)) (n : Nat) (h : MatAt byteV w v L) (hl : ∀ r ∈ L, r.length = n) (hw : ∀ r ∈ L, Octets r) (hn : n ≤ 281474976710656) :
    Calls Tryd.prog 74 #[.int .i64 (n : Int), v] w fun e w' => ∃ v', e = .returned v' ∧ w'.ownsRow w.heap.size 5 1 v' n ((sumS n L).map byteV) ∧ Below w.heap.size w w' := by
  obtain ⟨i0, hi, hz0, hz1, hz2⟩ := info_parts info_u8
  have hlen := h.len
  obtain ⟨a, cap, rfl, hcap, hcm, hcell⟩ := h.opens
  have HC := Lib.hid hcell
  have HL := Lib.hid hl
  have HW := Lib.hid hw
  clear h hcell hl hw
  go_enter Tryd.func74, Tryd.ntmps74
  go_wp2_with (at_make; refine wpList_make_full _ rfl _ _ 39 rfl w.heap.size 5 i0 (.int .u8 0) 1 Tryd.underlying39 hi hz0 hz1 .i64 .i64 _ _ n rfl rfl rfl rfl (by rw [hz2]; omega) (by unfold maxLen; omega) (Nat.le_refl _) ?_; intro w0 hown0 hgrow0; have hb0 := Lib.hid ((Below.refl w.heap.size w).grown hgrow0 (Nat.le_refl _) (fun k hk => by cases hk)); have ho0 := Lib.hid hown0; clear hown0 hgrow0)
  go_loopw [14] (fun i wr => ∃ k : Nat, k ≤ L.length ∧ i = .int .i64 k ∧ wr.ownsRow w.heap.size 5 1 (.slice (some ⟨w.heap.size, 0, none⟩) n n) n ((sumS n (L.take k)).map byteV) ∧ Below w.heap.size w wr) (fun i _ => L.length - (intOf i).toNat)
  case atStart => exact ⟨0, Nat.zero_le _, rfl, by rw [List.take_zero, sumS_nil, List.map_replicate]; have h := ho0.out; rw [Nat.mul_one] at h; exact toList_madeCells_one (.int .u8 0) n ▸ h, hb0.out⟩
  case round =>
    clear hb0 ho0
    obtain ⟨k, hk, rfl, hown, hbel⟩ := hrel
    have HO := Lib.hid hown
    have HB := Lib.hid hbel
    have hsz := hbel.size
    by_cases hlt : k < L.length
    · obtain ⟨b, off, rfl, hcc⟩ := HC.out (by omega)
      obtain ⟨x, hx, hlx⟩ := hcc k hlt
      have hx1 : wr.cell? ⟨b, off + k, none⟩ = some x := (hbel.cell (p := ⟨b, off + k, none⟩) (World.block_lt_of_cell? w _ hx)).trans hx
      have hmem := getD_mem_row hlt
      have hrl := HL.out _ hmem
      have HRW := Lib.hid (HW.out _ hmem)
      have HS : Hid (sumS n (L.take (k + 1)) = xorW (sumS n (L.take k)) (L.getD k [])) := Lib.hid (by rw [take_succ_row hlt, sumS_snoc hrl])
      have HSO := Lib.hid (sumS_octets (L := L.take k) (fun r hr => HW.out r (List.mem_of_mem_take hr)) n)
      have HSL := Lib.hid (sumS_length n (L.take k))
      have HRL := Lib.hid hrl
      obtain ⟨ra, rc, rfl, hrc, hrm, hrcell⟩ := hlx.bytes n hrl
      have HRC := Lib.hid hrcell
      clear hcc hx hlx hmem hrl hown hrcell
      have HZ : Hid (k = 0 → sumS n (L.take k) = List.replicate n 0) := Lib.hid fun e => by rw [e, List.take_zero, sumS_nil]
      generalize L.getD k [] = r at *
      generalize hS1 : sumS n (L.take (k + 1)) = S1 at HS
      have HS1 := Lib.hid hS1
      clear hS1
      generalize sumS n (L.take k) = S0 at *
      by_cases h0 : k = 0
      · have hk0 : ((k : Int) == 0) = true := by simp [h0]
        obtain ⟨hbg, hcl, hheap⟩ := own_full HO.out
        have HH := Lib.hid hheap
        have HCL := Lib.hid hcl
        have HX : Hid (S1 = r) := Lib.hid (by
          have hle : S0.length = r.length := by rw [HSL.out, HRL.out]
          rw [HS.out]
          apply ext_getD (by rw [xorW_length hle, hle])
          intro j hj
          rw [xorW_getD hle, HZ.out h0]
          simp [List.getD_eq_getElem?_getD, List.getElem?_replicate]
          split <;> simp)
        clear hheap hcl HZ h0
        go_wp2_with ((with_reducible show wpList _ _ _ (⟨some 23, _, _, _, _, _⟩ :: _) _ _); refine wpList_copy_splice rfl (.tmp 21) (.tmp 22) 39 39 rfl 5 Tryd.underlying39 (by rw [hi]; exact congrArg some hz1) (some ⟨w.heap.size, 0, none⟩) ra n n n rc rfl rfl w.heap.size 0 (S0.map byteV) 5 HH.out (r.map byteV) (by rw [List.length_map, HRL.out]; simp) (fun hp => ⟨rfl, by
          rw [List.length_map, HRL.out] at hp
          obtain ⟨b2, off2, e2, h2⟩ := HRC.out hp
          refine ⟨⟨b2, off2, none⟩, e2, fun j u hu => ?_⟩
          have hj : j < r.length := by have := (List.getElem?_eq_some_iff.1 hu).1; simpa using this
          have h3 := h2 j (by rw [← HRL.out]; exact hj)
          rw [Go.WideShapes.add_plain, HB.out.cell (p := ⟨b2, off2 + j, none⟩) (World.block_lt_of_cell? w _ h3), h3]
          simpa [hj, byteV, List.getD_eq_getElem?_getD] using hu⟩) (by have h1 := HRL.out; have h2 := HSL.out; simp; omega) (fun u hu => by obtain ⟨y, _, rfl⟩ := List.mem_map.1 hu; rfl) w.heap.size w HB.out (Nat.le_refl _) ?_; intro w2 hg2 hb2; have HG2 := hg2; have HB2 := Lib.hid hb2; clear hg2 hb2)
        go_wp2
        go_roundw
        case rel => exact ⟨k + 1, by omega, by go_num, by
          have h := HG2.out
          rw [splice_all (by rw [List.length_map, List.length_map, HRL.out, HSL.out])] at h
          rw [HS1.out, HX.out]
          exact own_of_heap (Nat.le_refl _) (by rw [List.length_map, HRL.out]) (by unfold maxLen; omega) h, HB2.out⟩
        case measure => simp [intOf]; omega
      · have hk0 : ((k : Int) == 0) = false := by simp [h0]
        clear HZ h0
        go_wp2
        go_loopw [26] (fun j wy => ∃ t : Nat, t ≤ n ∧ j = .int .i64 t ∧ (∃ zs : List Nat, zs.length = n ∧ Octets zs ∧ (∀ j, j < n → zs.getD j 0 = if j < t then S0.getD j 0 ^^^ r.getD j 0 else S0.getD j 0) ∧ wy.ownsRow w.heap.size 5 1 (.slice (some ⟨w.heap.size, 0, none⟩) n n) n (zs.map byteV)) ∧ Below w.heap.size w wy) (fun j _ => n - (intOf j).toNat)
        case atStart => exact ⟨0, Nat.zero_le _, rfl, ⟨S0, HSL.out, HSO.out, fun j _ => by simp, HO.out⟩, HB.out⟩
        case round =>
          clear hx1 hbel hsz HB HO
          obtain ⟨t, ht, rfl, ⟨zs, hzl, hzo, hzv, hown⟩, hbel⟩ := hrel
          have hsz := hbel.size
          by_cases hlt2 : t < n
          · obtain ⟨b2, off2, rfl, h2⟩ := HRC.out (by omega)
            have hr0 := h2 t hlt2
            have hy1 := (hbel.cell (p := ⟨b2, off2 + t, none⟩) (World.block_lt_of_cell? w _ hr0)).trans hr0
            have hy2 : wr.cell? ⟨w.heap.size, t, none⟩ = some (.int .u8 ((S0.getD t 0 : Nat) : Int)) := by
              rw [hown.cellAt t (by omega)]
              have e := hzv t hlt2
              rw [if_neg (by omega)] at e
              have : t < zs.length := by omega
              simp only [List.getD_eq_getElem?_getD, List.getElem?_eq_getElem this, Option.getD_some] at e
              simp [this, byteV, e]
            have hf1 : wr.frozen? ⟨w.heap.size, t, none⟩ = false := hown.frozenAt t
            have hxlt := HSO.out.getD t
            have hylt := HRW.out.getD t
            have hlt3 : S0.getD t 0 ^^^ r.getD t 0 < 256 := Nat.xor_lt_two_pow (n := 8) hxlt hylt
            have hbx := bits_xor_u8_nat (S0.getD t 0) (r.getD t 0) hxlt hylt
            have HZ1 : Hid (∀ u, S0.getD t 0 ^^^ r.getD t 0 = u → ∀ j, j < n → (zs.set t u).getD j 0 = if j < t + 1 then S0.getD j 0 ^^^ r.getD j 0 else S0.getD j 0) := Lib.hid fun u e j hj => by
              rw [getD_set _ _ _ _ _ (by omega)]
              by_cases e1 : j = t
              · subst e1; rw [if_pos rfl, if_pos (by omega), e]
              · rw [if_neg e1, hzv j hj]
                by_cases e2 : j < t
                · rw [if_pos e2, if_pos (by omega)]
                · rw [if_neg e2, if_neg (by omega)]
            have HO := Lib.hid hown
            have HB := Lib.hid hbel
            have HZL := Lib.hid hzl
            have HZO := Lib.hid hzo
            have HL3 := Lib.hid hlt3
            clear h2 hr0 hown hbel hzl hzo hzv hxlt hylt hlt3
            generalize S0.getD t 0 = X at *
            generalize r.getD t 0 = Y at *
            go_wp2
            go_roundw
            case rel => exact ⟨t + 1, by omega, by go_num, ⟨zs.set t (X ^^^ Y), by simpa using HZL.out, HZO.out.set _ _ HL3.out, HZ1.out _ rfl, by rw [List.map_set]; exact (HO.out.stored t (.int .u8 ((X ^^^ Y : Nat) : Int))).1⟩, HB.out.setCell (p := ⟨w.heap.size, t, none⟩) (Nat.le_refl _) _⟩
            case measure => simp [intOf]; omega
          · have ht' : t = n := by omega
            have HV : Hid (zs = S1) := Lib.hid (by
              have hle : S0.length = r.length := by rw [HSL.out, HRL.out]
              rw [HS.out]
              apply ext_getD (by rw [hzl, xorW_length hle, HSL.out])
              intro j hj
              have e := hzv j (by omega)
              rw [if_pos (by omega), ← xorW_getD hle] at e
              exact e)
            have HO := Lib.hid hown
            have HB := Lib.hid hbel
            clear hown hbel hzv hzl hzo
            go_wp2
            go_roundw
            case rel => exact ⟨k + 1, by omega, by go_num, by rw [HS1.out, ← HV.out]; exact HO.out, HB.out⟩
            case measure => simp [intOf]; omega
    · have hk' : k = L.length := by omega
      have HE : Hid (L.take k = L) := Lib.hid (by rw [hk', List.take_length])
      rw [HE.out] at HO
      go_wp2
      go_ret
      exact ⟨_, rfl, HO.out, HB.out⟩
end Go.Proofs.YtnkkaggepokjeaaDoor
