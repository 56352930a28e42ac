import Derived.Test.YtkfimdpcadbcpaaGreatDoorA08
import Derived.WalkSpells
import Derived.WalkLawsBesides
import Derived.Laws.CopyOwn
import Derived.Test.YtkfimdpcadbcpaaGreatDoorA02
import Derived.Test.YtkfimdpcadbcpaaGreatDoorA03
import Derived.Test.YtkfimdpcadbcpaaGreatDoorA01
set_option linter.unusedSimpArgs false
set_option linter.unusedVariables false
set_option maxRecDepth 1000000
set_option maxHeartbeats 8000000
namespace Go.Proofs.YtkfimdpcadbcpaaGreatDoor
section
open Go.RowKit Go.Extern.Stop Go.Stop Go.Extern
theorem zGN (l q i : Nat) : (if (i : Int) < (l : Int) then (q : Int) + 1 else (q : Int)) = ((cntP l q i : Nat) : Int) := by unfold cntP; split <;> split <;> omega
theorem zKe {s b n l q : Nat} (h : PlanOk s b n l q) {i : Nat} (hi : i < n) : srcC (s : Int) (b : Int) (n : Int) (l : Int) (q : Int) (i : Int) = 0 := by
  unfold srcC
  rw [if_pos (zEj h), if_neg (by omega)]
theorem PlanOk.i64 {s b n l q : Nat} (h : PlanOk s b n l q) : I64 (s : Int) ∧ I64 (b : Int) ∧ I64 (n : Int) ∧ I64 (l : Int) ∧ I64 (q : Int) := by
  have h1 := h.size_le.1
  have h2 := h.b64
  have h3 := h.n16
  have h4 := h.lt
  have h5 := h.q128
  unfold I64
  omega
theorem ErrAns.nil_of {c : ByteArray} {w : World} {E : Value} (h : ErrAns 0 c w E) : E = .nilIface := by
  rcases h with ⟨-, h⟩ | ⟨h, -⟩
  · exact h
  · exact absurd rfl h
theorem zH4 {w : World} {s b n l q : Nat} (h : PlanOk s b n l q) : Calls Tryz.prog 86 #[.agg #[.int .i64 (s : Int), .int .i64 (b : Int), .int .i64 (n : Int), .int .i64 (l : Int), .int .i64 (q : Int)]] w fun e w' => e = .returned .nilIface ∧ Below w.heap.size w w' := by
  obtain ⟨h1, h2, h3, h4, h5⟩ := h.i64
  refine (zBL _ _ _ _ _ h1 h2 h3 h4 h5).mono ?_
  rintro e w' ⟨E, rfl, he, hb⟩
  rw [zEj h] at he
  exact ⟨by rw [he.nil_of], hb⟩
theorem zFN {w : World} {s b n l q : Nat} (h : PlanOk s b n l q) {i : Nat} (hi : i < n) : Calls Tryz.prog 54 #[.agg #[.int .i64 (s : Int), .int .i64 (b : Int), .int .i64 (n : Int), .int .i64 (l : Int), .int .i64 (q : Int)], .int .i64 (i : Int)] w fun e w' => e = .returned (.tuple #[.int .i64 ((cntP l q i : Nat) : Int), .nilIface]) ∧ Below w.heap.size w w' := by
  obtain ⟨h1, h2, h3, h4, h5⟩ := h.i64
  refine (zE8 _ _ _ _ _ (i : Int) h1 h2 h3 h4 h5).mono ?_
  rintro e w' ⟨E, rfl, he, hb⟩
  rw [zKe h hi] at he
  rw [if_pos (zKe h hi), zGN, he.nil_of]
  exact ⟨rfl, hb⟩
theorem zHd {w : World} {s b n l q : Nat} (h : PlanOk s b n l q) (i : Nat) : Calls Tryz.prog 87 #[.agg #[.int .i64 (s : Int), .int .i64 (b : Int), .int .i64 (n : Int), .int .i64 (l : Int), .int .i64 (q : Int)], .int .i64 (i : Int)] w fun e w' => e = .returned (.int .i64 ((cntP l q i : Nat) : Int)) ∧ Below w.heap.size w w' := by
  refine (zBR (s : Int) (b : Int) (n : Int) (l : Int) (q : Int) (i : Int) (by omega) (by have := h.q128; omega)).mono ?_
  rintro e w' ⟨rfl, hb⟩
  rw [zGN]
  exact ⟨rfl, hb⟩
end

section
open Go.RowKit Go.Extern.Stop Go.Stop Go.Extern
theorem ListAt.bytes {w : World} {v : Value} {l : List Nat} (h : ListAt byteV w v l) (n : Nat) (hn : l.length = n) :
    ∃ a cap, v = .slice a n cap ∧ n ≤ cap ∧ cap ≤ maxLen ∧ (0 < n → ∃ b off, a = some ⟨b, off, none⟩ ∧ ∀ j, j < n → w.cell? ⟨b, off + j, none⟩ = some (.int .u8 ((l.getD j 0 : Nat) : Int))) := by
  subst hn
  obtain ⟨a, cap, rfl, hc, hm, h⟩ := h
  refine ⟨a, cap, rfl, hc, hm, fun hp => ?_⟩
  obtain ⟨b, off, rfl, hcell⟩ := h hp
  refine ⟨b, off, rfl, fun j hj => ?_⟩
  rw [hcell j hj, List.getD_eq_getElem?_getD, List.getElem?_eq_getElem hj]
  rfl
theorem zEw {L : List (List Nat)} {k : Nat} (h : k < L.length) : L.take (k + 1) = L.take k ++ [L.getD k []] := by
  rw [List.take_add_one, List.getD_eq_getElem?_getD, List.getElem?_eq_getElem h]; rfl
theorem zC7 {w : World} (v : Value) (L : List (List Nat)) (n : Int) (h : MatAt byteV w v L) (hn : I64 n) :
    Calls Tryz.prog 117 #[v, .int .i64 n] w fun e w' => e = .returned (.int .i64 (checkS L n)) ∧ w = w' := by
  have hlen := h.len
  obtain ⟨a, cap, rfl, hcap, hcm, hcell⟩ := h.opens
  clear h
  obtain ⟨hn0, hn1⟩ := hn
  by_cases h0 : n < 1
  · have HR : Hid (checkS L n = 1) := lhd (by unfold checkS; rw [if_pos (.inl h0)])
    clear hcell
    go_enter Tryz.func117, Tryz.ntmps117
    go_wp2
    go_ret
    exact ⟨by rw [HR.out]; rfl, rfl⟩
  · have h0' : 1 ≤ n := by omega
    by_cases h1 : 64 < n
    · have HR : Hid (checkS L n = 1) := lhd (by unfold checkS; rw [if_pos (.inr h1)])
      clear hcell h0
      go_enter Tryz.func117, Tryz.ntmps117
      go_wp2
      go_ret
      exact ⟨by rw [HR.out]; rfl, rfl⟩
    · have h1' : n ≤ 64 := by omega
      have HR : Hid (∀ b, L.all (fun r => decide ((r.length : Int) = n)) = b → checkS L n = if b then 0 else 2) := lhd fun b e => by
        unfold checkS; rw [if_neg (by omega), e]
      have HC := lhd hcell
      clear hcell h0 h1
      go_enter Tryz.func117, Tryz.ntmps117
      go_wp2
      go_loopw [15] (fun i wr => ∃ k : Nat, k ≤ L.length ∧ i = .int .i64 k ∧ (∀ j, j < k → ((L.getD j []).length : Int) = n) ∧ w = wr) (fun i _ => L.length - (intOf i).toNat)
      case atStart => exact ⟨0, Nat.zero_le _, rfl, fun j hj => by omega, rfl⟩
      case round =>
        obtain ⟨k, hk, rfl, hz, rfl⟩ := hrel
        by_cases hlt : k < L.length
        · obtain ⟨b, off, rfl, hcc⟩ := HC.out (by omega)
          obtain ⟨x, hx, hlx⟩ := hcc k hlt
          have hx' : w.cell? ⟨b, off + k, none⟩ = some x := hx
          have HF : Hid (((L.getD k []).length : Int) ≠ n → L.all (fun r => decide ((r.length : Int) = n)) = false) := lhd fun h => by
            rw [List.all_eq_false]; exact ⟨_, zAt hlt, by simpa using h⟩
          have HT : Hid (((L.getD k []).length : Int) = n → ∀ j, j < k + 1 → ((L.getD j []).length : Int) = n) := lhd fun h j hj => by
            by_cases e : j = k
            · rw [e]; exact h
            · exact hz j (by omega)
          have hrl := hlx.len
          obtain ⟨ra, rc, rfl, -, -, -⟩ := hlx
          clear hcc hx hz
          generalize (L.getD k []).length = m at *
          by_cases he : (m : Int) = n
          · have hb2 : ((m : Int) != n) = false := by simpa using he
            have hb1 : ((m : Int) == n) = true := by simpa using he
            have HT' := lhd (HT.out he)
            clear HF HT he
            go_wp2
            go_roundw
            case rel => exact ⟨k + 1, by omega, by go_num, HT'.out, trivial⟩
            case measure => simp [intOf]; omega
          · have hb2 : ((m : Int) != n) = true := by simpa using he
            have hb1 : ((m : Int) == n) = false := by simpa using he
            have HF' := lhd (HF.out he)
            clear HF HT he
            go_wp2
            go_ret
            exact ⟨by rw [HR.out _ HF'.out]; rfl, rfl⟩
        · have hk' : k = L.length := by omega
          have HA : Hid (L.all (fun r => decide ((r.length : Int) = n)) = true) := lhd (by
            rw [List.all_eq_true]
            intro r hr
            obtain ⟨j, hj, rfl⟩ := List.getElem_of_mem hr
            have := hz j (by omega)
            simp only [List.getD_eq_getElem?_getD, List.getElem?_eq_getElem hj, Option.getD_some] at this
            exact decide_eq_true this)
          clear hz
          go_wp2
          go_ret
          exact ⟨by rw [HR.out _ HA.out]; rfl, rfl⟩
theorem zFc {w : World} (v : Value) (L : List (List Nat)) (n : Nat) (h : MatAt byteV w v L) (hl : ∀ r ∈ L, r.length = n) (hw : ∀ r ∈ L, Octets r) (hn : n ≤ 281474976710656) :
    Calls Tryz.prog 180 #[.int .i64 (n : Int), v] w fun e w' => ∃ v', e = .returned v' ∧ w'.ownsRow w.heap.size 5 1 v' n ((sumS n L).map byteV) ∧ Below w.heap.size w w' := by
  obtain ⟨i0, hi, hz0, hz1, hz2⟩ := info_parts zAY
  have hlen := h.len
  obtain ⟨a, cap, rfl, hcap, hcm, hcell⟩ := h.opens
  have HC := lhd hcell
  have HL := lhd hl
  have HW := lhd hw
  clear h hcell hl hw
  go_enter Tryz.func180, Tryz.ntmps180
  go_wp2_with (at_make; refine wpList_make_full _ rfl _ _ 31 rfl w.heap.size 5 i0 (.int .u8 0) 1 Tryz.underlying31 hi hz0 hz1 .i64 .i64 _ _ n rfl rfl rfl rfl (by rw [hz2]; omega) (by unfold maxLen; omega) (Nat.le_refl _) ?_; intro w0 hown0 hgrow0; have hb0 := lhd ((Below.refl w.heap.size w).grown hgrow0 (Nat.le_refl _) (fun k hk => by cases hk)); have ho0 := lhd hown0; clear hown0 hgrow0)
  go_loopw [14] (fun i wr => ∃ k : Nat, k ≤ L.length ∧ i = .int .i64 k ∧ wr.ownsRow w.heap.size 5 1 (.slice (some ⟨w.heap.size, 0, none⟩) n n) n ((sumS n (L.take k)).map byteV) ∧ Below w.heap.size w wr) (fun i _ => L.length - (intOf i).toNat)
  case atStart => exact ⟨0, Nat.zero_le _, rfl, by rw [List.take_zero, zG4, List.map_replicate]; have h := ho0.out; rw [Nat.mul_one] at h; exact toList_madeCells_one (.int .u8 0) n ▸ h, hb0.out⟩
  case round =>
    clear hb0 ho0
    obtain ⟨k, hk, rfl, hown, hbel⟩ := hrel
    have HO := lhd hown
    have HB := lhd hbel
    have hsz := hbel.size
    by_cases hlt : k < L.length
    · obtain ⟨b, off, rfl, hcc⟩ := HC.out (by omega)
      obtain ⟨x, hx, hlx⟩ := hcc k hlt
      have hx1 : wr.cell? ⟨b, off + k, none⟩ = some x := (hbel.cell (p := ⟨b, off + k, none⟩) (World.block_lt_of_cell? w _ hx)).trans hx
      have hmem := zAt hlt
      have hrl := HL.out _ hmem
      have HRW := lhd (HW.out _ hmem)
      have HS : Hid (sumS n (L.take (k + 1)) = xorW (sumS n (L.take k)) (L.getD k [])) := lhd (by rw [zEw hlt, zFf hrl])
      have HSO := lhd (zBT (L := L.take k) (fun r hr => HW.out r (List.mem_of_mem_take hr)) n)
      have HSL := lhd (zAr n (L.take k))
      have HRL := lhd hrl
      obtain ⟨ra, rc, rfl, hrc, hrm, hrcell⟩ := hlx.bytes n hrl
      have HRC := lhd hrcell
      clear hcc hx hlx hmem hrl hown hrcell
      have HZ : Hid (k = 0 → sumS n (L.take k) = List.replicate n 0) := lhd fun e => by rw [e, List.take_zero, zG4]
      generalize L.getD k [] = r at *
      generalize hS1 : sumS n (L.take (k + 1)) = S1 at HS
      have HS1 := lhd hS1
      clear hS1
      generalize sumS n (L.take k) = S0 at *
      by_cases h0 : k = 0
      · have hk0 : ((k : Int) == 0) = true := by simp [h0]
        obtain ⟨hbg, hcl, hheap⟩ := zAQ HO.out
        have HH := lhd hheap
        have HCL := lhd hcl
        have HX : Hid (S1 = r) := lhd (by
          have hle : S0.length = r.length := by rw [HSL.out, HRL.out]
          rw [HS.out]
          apply zAT (by rw [zAm hle, hle])
          intro j hj
          rw [zAu hle, HZ.out h0]
          simp [List.getD_eq_getElem?_getD, List.getElem?_replicate]
          split <;> simp)
        clear hheap hcl HZ h0
        go_wp2_with ((with_reducible show wpList _ _ _ (⟨some 23, _, _, _, _, _⟩ :: _) _ _); refine wpList_copy_splice rfl (.tmp 21) (.tmp 22) 31 31 rfl 5 Tryz.underlying31 (by rw [hi]; exact congrArg some hz1) (some ⟨w.heap.size, 0, none⟩) ra n n n rc rfl rfl w.heap.size 0 (S0.map byteV) 5 HH.out (r.map byteV) (by rw [List.length_map, HRL.out]; simp) (fun hp => ⟨rfl, by
          rw [List.length_map, HRL.out] at hp
          obtain ⟨b2, off2, e2, h2⟩ := HRC.out hp
          refine ⟨⟨b2, off2, none⟩, e2, fun j u hu => ?_⟩
          have hj : j < r.length := by have := (List.getElem?_eq_some_iff.1 hu).1; simpa using this
          have h3 := h2 j (by rw [← HRL.out]; exact hj)
          rw [Go.WideShapes.add_plain, HB.out.cell (p := ⟨b2, off2 + j, none⟩) (World.block_lt_of_cell? w _ h3), h3]
          simpa [hj, byteV, List.getD_eq_getElem?_getD] using hu⟩) (by have h1 := HRL.out; have h2 := HSL.out; simp; omega) (fun u hu => by obtain ⟨y, _, rfl⟩ := List.mem_map.1 hu; rfl) w.heap.size w HB.out (Nat.le_refl _) ?_; intro w2 hg2 hb2; have HG2 := hg2; have HB2 := lhd hb2; clear hg2 hb2)
        go_wp2
        go_roundw
        case rel => exact ⟨k + 1, by omega, by go_num, by
          have h := HG2.out
          rw [zId (by rw [List.length_map, List.length_map, HRL.out, HSL.out])] at h
          rw [HS1.out, HX.out]
          exact zAq (Nat.le_refl _) (by rw [List.length_map, HRL.out]) (by unfold maxLen; omega) h, HB2.out⟩
        case measure => simp [intOf]; omega
      · have hk0 : ((k : Int) == 0) = false := by simp [h0]
        clear HZ h0
        go_wp2
        go_loopw [26] (fun j wy => ∃ t : Nat, t ≤ n ∧ j = .int .i64 t ∧ (∃ zs : List Nat, zs.length = n ∧ Octets zs ∧ (∀ j, j < n → zs.getD j 0 = if j < t then S0.getD j 0 ^^^ r.getD j 0 else S0.getD j 0) ∧ wy.ownsRow w.heap.size 5 1 (.slice (some ⟨w.heap.size, 0, none⟩) n n) n (zs.map byteV)) ∧ Below w.heap.size w wy) (fun j _ => n - (intOf j).toNat)
        case atStart => exact ⟨0, Nat.zero_le _, rfl, ⟨S0, HSL.out, HSO.out, fun j _ => by simp, HO.out⟩, HB.out⟩
        case round =>
          clear hx1 hbel hsz HB HO
          obtain ⟨t, ht, rfl, ⟨zs, hzl, hzo, hzv, hown⟩, hbel⟩ := hrel
          have hsz := hbel.size
          by_cases hlt2 : t < n
          · obtain ⟨b2, off2, rfl, h2⟩ := HRC.out (by omega)
            have hr0 := h2 t hlt2
            have hy1 := (hbel.cell (p := ⟨b2, off2 + t, none⟩) (World.block_lt_of_cell? w _ hr0)).trans hr0
            have hy2 : wr.cell? ⟨w.heap.size, t, none⟩ = some (.int .u8 ((S0.getD t 0 : Nat) : Int)) := by
              rw [hown.cellAt t (by omega)]
              have e := hzv t hlt2
              rw [if_neg (by omega)] at e
              have : t < zs.length := by omega
              simp only [List.getD_eq_getElem?_getD, List.getElem?_eq_getElem this, Option.getD_some] at e
              simp [this, byteV, e]
            have hf1 : wr.frozen? ⟨w.heap.size, t, none⟩ = false := hown.frozenAt t
            have hxlt := HSO.out.getD t
            have hylt := HRW.out.getD t
            have hlt3 : S0.getD t 0 ^^^ r.getD t 0 < 256 := Nat.xor_lt_two_pow (n := 8) hxlt hylt
            have hbx := zBu (S0.getD t 0) (r.getD t 0) hxlt hylt
            have HZ1 : Hid (∀ u, S0.getD t 0 ^^^ r.getD t 0 = u → ∀ j, j < n → (zs.set t u).getD j 0 = if j < t + 1 then S0.getD j 0 ^^^ r.getD j 0 else S0.getD j 0) := lhd fun u e j hj => by
              rw [zAU _ _ _ _ _ (by omega)]
              by_cases e1 : j = t
              · subst e1; rw [if_pos rfl, if_pos (by omega), e]
              · rw [if_neg e1, hzv j hj]
                by_cases e2 : j < t
                · rw [if_pos e2, if_pos (by omega)]
                · rw [if_neg e2, if_neg (by omega)]
            have HO := lhd hown
            have HB := lhd hbel
            have HZL := lhd hzl
            have HZO := lhd hzo
            have HL3 := lhd hlt3
            clear h2 hr0 hown hbel hzl hzo hzv hxlt hylt hlt3
            generalize S0.getD t 0 = X at *
            generalize r.getD t 0 = Y at *
            go_wp2
            go_roundw
            case rel => exact ⟨t + 1, by omega, by go_num, ⟨zs.set t (X ^^^ Y), by simpa using HZL.out, HZO.out.set _ _ HL3.out, HZ1.out _ rfl, by rw [List.map_set]; exact (HO.out.stored t (.int .u8 ((X ^^^ Y : Nat) : Int))).1⟩, HB.out.setCell (p := ⟨w.heap.size, t, none⟩) (Nat.le_refl _) _⟩
            case measure => simp [intOf]; omega
          · have ht' : t = n := by omega
            have HV : Hid (zs = S1) := lhd (by
              have hle : S0.length = r.length := by rw [HSL.out, HRL.out]
              rw [HS.out]
              apply zAT (by rw [hzl, zAm hle, HSL.out])
              intro j hj
              have e := hzv j (by omega)
              rw [if_pos (by omega), ← zAu hle] at e
              exact e)
            have HO := lhd hown
            have HB := lhd hbel
            clear hown hbel hzv hzl hzo
            go_wp2
            go_roundw
            case rel => exact ⟨k + 1, by omega, by go_num, by rw [HS1.out, ← HV.out]; exact HO.out, HB.out⟩
            case measure => simp [intOf]; omega
    · have hk' : k = L.length := by omega
      have HE : Hid (L.take k = L) := lhd (by rw [hk', List.take_length])
      rw [HE.out] at HO
      go_wp2
      go_ret
      exact ⟨_, rfl, HO.out, HB.out⟩
end

section
open Go.RowKit Go.Extern.Stop Go.Stop Go.Extern
abbrev namePick : ByteArray := ⟨#[115, 121, 109, 98, 111, 108, 46, 80, 105, 99, 107]⟩
theorem zN5 {w : World} (v : Value) (L : List (List Nat)) (m : Nat) (h : MatAt byteV w v L) (h1 : 1 ≤ m) (h2 : m ≤ 64) (hl : ∀ r ∈ L, r.length = m) (hw : ∀ r ∈ L, Octets r) :
    Calls Tryz.prog 150 #[v, .int .i64 (m : Int)] w fun e w' => ∃ v', e = .returned (.tuple #[v', .nilIface]) ∧ w'.ownsRow w.heap.size 5 1 v' m ((sumS m L).map byteV) ∧ Below w.heap.size w w' := by
  have HM := lhd h
  have HK := lhd (zCR h1 h2 hl)
  have HL := lhd hl
  have HW := lhd hw
  obtain ⟨a, cap, rfl, -, -, -⟩ := h.opens
  clear h hl hw
  go_enter Tryz.func150, Tryz.ntmps150
  go_wp2_with fail
  refine (zC7 _ L (m : Int) HM.out (by omega)).mono ?_
  rintro e w1 ⟨rfl, rfl⟩
  rw [HK.out]
  go_wp2_with fail
  refine (zFc _ L m HM.out HL.out HW.out (by omega)).mono ?_
  rintro e w1 ⟨v1, rfl, ho1, hb1⟩
  have HO1 := lhd ho1
  have HB1 := lhd hb1
  obtain ⟨ao, co, rfl, -, -⟩ := zAe ho1
  clear ho1 hb1
  go_wp2
  go_ret2
  exact ⟨_, rfl, HO1.out, HB1.out⟩
def zeroB (l : List Nat) : Bool := l.all fun x => x == 0
theorem zCM {w : World} (x : Nat) (b : Bool) (hb : (x != 0) = b) :
    Calls Tryz.prog 215 #[.int .u8 (x : Int)] w fun e w' => e = .returned (.bool b) ∧ w = w' := by
  have hb2 : ((x : Int) != 0) = b := by
    rw [← hb]
    by_cases h : x = 0
    · subst h; rfl
    · have h1 : (x != 0) = true := by simpa using h
      have h2 : ((x : Int) != 0) = true := by simp; omega
      rw [h1, h2]
  go_enter Tryz.func215, Tryz.ntmps215
  go_wp2
  go_ret
  exact ⟨rfl, rfl⟩
theorem zEv {w : World} (v : Value) (l : List Nat) (h : ListAt byteV w v l) :
    Calls Tryz.prog 237 #[v, .func (.func 215) #[] #[]] w fun e w' => ∃ i : Int, e = .returned (.int .i64 i) ∧ I64 i ∧ decide (0 ≤ i) = !zeroB l ∧ w = w' := by
  have hlen := h.len
  obtain ⟨a, cap, rfl, hcap, hcm, hcell⟩ := h.bytes l.length rfl
  have HC := lhd hcell
  clear h hcell
  go_enter Tryz.func237, Tryz.ntmps237
  go_wp2
  go_loopw [8] (fun i wr => ∃ k : Nat, k ≤ l.length ∧ i = .int .i64 k ∧ (∀ j, j < k → l.getD j 0 = 0) ∧ w = wr) (fun i _ => l.length - (intOf i).toNat)
  case atStart => exact ⟨0, Nat.zero_le _, rfl, fun j hj => by omega, rfl⟩
  case round =>
    obtain ⟨k, hk, rfl, hz, rfl⟩ := hrel
    by_cases hlt : k < l.length
    · obtain ⟨b, off, rfl, hcc⟩ := HC.out (by omega)
      have hx := hcc k hlt
      have HT : Hid (l.getD k 0 = 0 → ∀ j, j < k + 1 → l.getD j 0 = 0) := lhd fun h j hj => by
        by_cases e : j = k
        · rw [e]; exact h
        · exact hz j (by omega)
      have HF : Hid (l.getD k 0 ≠ 0 → decide ((0 : Int) ≤ (k : Int)) = !zeroB l) := lhd fun h => by
        have : zeroB l = false := by
          unfold zeroB
          rw [List.all_eq_false]
          refine ⟨l[k], List.getElem_mem hlt, ?_⟩
          simpa [List.getD_eq_getElem?_getD, hlt] using h
        rw [this, decide_eq_true (by omega)]; rfl
      clear hcc hz
      generalize l.getD k 0 = x at *
      by_cases hx0 : x = 0
      · have hb : (x != 0) = false := by simp [hx0]
        have HT' := lhd (HT.out hx0)
        clear HF HT hx0
        go_wp2_with fail
        refine (zCM x false hb).mono ?_
        rintro e w1 ⟨rfl, rfl⟩
        go_wp2
        go_roundw
        case rel => exact ⟨k + 1, by omega, by go_num, HT'.out, trivial⟩
        case measure => simp [intOf]; omega
      · have hb : (x != 0) = true := by simpa using hx0
        have HF' := lhd (HF.out hx0)
        clear HF HT hx0
        go_wp2_with fail
        refine (zCM x true hb).mono ?_
        rintro e w1 ⟨rfl, rfl⟩
        go_wp2
        go_ret
        exact ⟨_, rfl, ⟨by omega, by omega⟩, HF'.out, rfl⟩
    · have hk' : k = l.length := by omega
      have HF : Hid (decide ((0 : Int) ≤ -1) = !zeroB l) := lhd (by
        have : zeroB l = true := by
          unfold zeroB
          rw [List.all_eq_true]
          intro x hx
          obtain ⟨j, hj, rfl⟩ := List.getElem_of_mem hx
          have := hz j (by omega)
          simpa [List.getD_eq_getElem?_getD, hj] using this
        rw [this]; rfl)
      clear hz
      go_wp2
      go_ret
      exact ⟨_, rfl, ⟨by decide, by decide⟩, HF.out, rfl⟩
theorem zGA {w : World} (v : Value) (l : List Nat) (h : ListAt byteV w v l) :
    Calls Tryz.prog 185 #[v] w fun e w' => e = .returned (.bool (zeroB l)) ∧ w = w' := by
  have HL := lhd h
  obtain ⟨a, cap, rfl, -, -, -⟩ := h
  have hmf : ∀ (fn : Fn) (first cap : Array Value) (w : World), (Instr.makeFunc fn first cap).run Tryz.prog w = .ok (.func fn first cap) w := fun _ _ _ _ => rfl
  have HC : Hid (Calls Tryz.prog 214 #[.slice a l.length cap, .func (.func 215) #[] #[]] w fun e w' => e = .returned (.bool (!zeroB l)) ∧ w = w') := by
    show Calls _ _ _ _ _
    go_enter Tryz.func214, Tryz.ntmps214
    go_wp2_with fail
    refine (zEv _ l HL.out).mono ?_
    rintro e w1 ⟨i, rfl, hi, hd, rfl⟩
    have HD := lhd hd
    clear hd
    go_wp2
    go_ret
    exact ⟨by rw [← HD.out]; rfl, rfl⟩
  go_enter Tryz.func185, Tryz.ntmps185
  go_wp2_with fail
  refine HC.out.mono ?_
  rintro e w1 ⟨rfl, rfl⟩
  go_wp2
  go_ret
  exact ⟨by simp, rfl⟩
end

section
open Go.RowKit Go.Extern.Stop Go.Stop Go.Extern
theorem MatOwn.none {α : Type} {f : α → Value} {te e : TypeId} {base : Nat} (w : World) : MatOwn f te base e w (.slice none 0 0) [] :=
  ⟨[], World.ownsRow_nil _ _ _ _, fun i => by simpa using ElAt.nil f te base _⟩
theorem zBd (ws : List Nat) (n : Nat) : (colsTo ws n).length ≤ 64 * ws.length := by
  obtain ⟨B, -, hB⟩ := zHt ws n
  have := zBn ws
  rw [hB, List.length_append] at this
  omega
def PickSays (ws : List Nat) (L : List (List Nat)) (m : Nat) (w w' : World) (e : Ending) : Prop :=
  if behindB ws L.length = true then ∃ E, e = .returned (.tuple #[.slice none 0 0, E]) ∧ ErrAns 2 namePick w' E ∧ Below w.heap.size w w'
  else ∃ v', e = .returned (.tuple #[v', .nilIface]) ∧ w'.ownsRow w.heap.size 5 1 v' m ((sumS m (pickTo ws L L.length)).map byteV) ∧ Below w.heap.size w w'
theorem zM8 {w : World} (vw v : Value) (ws : List Nat) (L : List (List Nat)) (m : Nat) (hvw : ListAt wordV w vw ws) (hww : Word ws) (hwl : ws.length ≤ 100000) (h : MatAt byteV w v L) (h1 : 1 ≤ m) (h2 : m ≤ 64) (hl : ∀ r ∈ L, r.length = m) (hw : ∀ r ∈ L, Octets r) :
    Calls Tryz.prog 160 #[vw, v, .int .i64 (m : Int)] w fun e w' => PickSays ws L m w w' e := by
  obtain ⟨i0, hi0, hz0, hz1, hz2⟩ := info_parts zB5
  have hlen := h.len
  have HM := lhd h
  have HK := lhd (zCR h1 h2 hl)
  have HL := lhd hl
  have HW := lhd hw
  have HVW := lhd hvw
  have HWW := lhd hww
  obtain ⟨a, cap, rfl, hcap, -, hcell⟩ := h.opens
  obtain ⟨aw, cw, rfl, -, -, -⟩ := hvw
  have HC := lhd hcell
  clear h hl hw hww hcell
  go_enter Tryz.func160, Tryz.ntmps160
  go_wp2_with fail
  refine (zC7 _ L (m : Int) HM.out (by omega)).mono ?_
  rintro e w1 ⟨rfl, rfl⟩
  rw [HK.out]
  go_wp2_with fail
  go_loopw [9, 21] (fun o i wr => ∃ k : Nat, k ≤ L.length ∧ i = .int .i64 k ∧ MatOwn byteV 5 w.heap.size 31 wr o (pickTo ws L k) ∧ Below w.heap.size w wr) (fun _ i _ => L.length - (intOf i).toNat)
  case atStart => exact ⟨0, Nat.zero_le _, rfl, MatOwn.none w, Below.refl _ _⟩
  case round =>
    obtain ⟨k, hk, rfl, ⟨vs, hown, hel⟩, hbel⟩ := hrel
    have hsz := hbel.size
    by_cases hlt : k < L.length
    · obtain ⟨b, off, rfl, hcc⟩ := HC.out (by omega)
      obtain ⟨x, hx, hlx⟩ := hcc k hlt
      have hx1 := (hbel.cell (p := ⟨b, off + k, none⟩) (World.block_lt_of_cell? w _ hx)).trans hx
      have HEX : Hid (ElAt byteV 5 w.heap.size wr x (L.getD k [])) := lhd (ElAt.old hlx hbel)
      have hrl := hlx.len
      obtain ⟨ax, cx, rfl, -, -, -⟩ := hlx
      have HQ := lhd (zBf ws L k)
      have hq := zBd ws k
      have HO := lhd hown
      rw [zBf] at HO
      have HEL := lhd hel
      have HB := lhd hbel
      have HI : Hid (hasI ws (k : Int) = bitW ws k) := lhd (by rw [hasI, if_neg (by omega)]; rfl)
      have HVW1 := lhd (HVW.out.mono hbel)
      have HP := lhd (@zC9 ws L k)
      have HPO := lhd (@zCp ws L k)
      clear hcc hx hown hel hbel
      generalize (L.getD k []).length = ll at *
      generalize (colsTo ws k).length = q at *
      cases hb : bitW ws k with
      | true =>
        have HS := lhd (HP.out hb)
        have HI2 : Hid (hasI ws (k : Int) = true) := lhd (HI.out.trans hb)
        clear hb HP HPO HI
        go_wp2_with fail
        refine (zGg _ ws (k : Int) HVW1.out HWW.out (by omega)).mono ?_
        rintro e w1 ⟨rfl, rfl⟩
        rw [HI2.out]
        go_wp2_with (at_builtin; refine wpList_append_own _ rfl (.tmp 29) (.tmp 31) 96 rfl w.heap.size 31 i0 (.slice none 0 0) 1 24 Tryz.underlying96 hi0 hz0 hz1 hz2 rfl (by decide) u9 q vs rfl (HO.out.alloc _) ⟨wr.heap.size, 0, none⟩ 1 1 [.slice ax ll cx] rfl rfl (cell_one_new _ _ _) (fun x hx => by simp at hx; subst hx; rfl) (by unfold maxLen; omega) (by omega) (by simp; omega) ?_; intro v2 w2 hown1 hgrow1 _; have hb2 := lhd ((HB.out.alloc hsz _).grown hgrow1 (by simp; omega) (fun k hk => (HO.out.lt k hk).1)); have ho2 : Hid (MatOwn byteV 5 w.heap.size 31 w2 v2 (pickTo ws L k ++ [L.getD k []])) := lhd (MatOwn.app (by decide) (by rw [HQ.out]; exact HO.out) HEL.out HEX.out (by rw [HQ.out]; exact hown1) hgrow1); clear hown1 hgrow1)
        go_roundw
        case rel => exact ⟨k + 1, by omega, by go_num, by rw [HS.out]; exact ho2.out, hb2.out⟩
        case measure => simp [intOf]; omega
      | false =>
        have HS := lhd (HPO.out hb)
        have HI2 : Hid (hasI ws (k : Int) = false) := lhd (HI.out.trans hb)
        clear hb HP HPO HI
        go_wp2_with fail
        refine (zGg _ ws (k : Int) HVW1.out HWW.out (by omega)).mono ?_
        rintro e w1 ⟨rfl, rfl⟩
        rw [HI2.out]
        go_wp2
        go_roundw
        case rel => exact ⟨k + 1, by omega, by go_num, by rw [HS.out]; exact ⟨vs, by rw [HQ.out]; exact HO.out, HEL.out⟩, HB.out⟩
        case measure => simp [intOf]; omega
    · have hk' : k = L.length := by omega
      have hM := MatOwn.at ⟨vs, hown, hel⟩
      rw [hk'] at hM
      have HPM := lhd hM
      have HB := lhd hbel
      have HPL := lhd (fun r hr => HL.out r (zDT (ws := ws) (Nat.le_refl L.length) r hr))
      have HPW := lhd (fun r hr => HW.out r (zDT (ws := ws) (Nat.le_refl L.length) r hr))
      have HVW1 := lhd (HVW.out.mono hbel)
      have hpl := zBf ws L L.length
      have hq := zBd ws L.length
      have hq2 := zBn ws
      have HBH : Hid (behindB ws L.length = decide ((colsTo ws L.length).length < (colsOf ws).length)) := lhd rfl
      obtain ⟨pa, pc, rfl, -, -, -⟩ := hM.opens
      rw [hpl] at HPM ⊢
      have HPS : Hid (∀ e w', PickSays ws L m w w' e = if behindB ws L.length = true then ∃ E, e = .returned (.tuple #[.slice none 0 0, E]) ∧ ErrAns 2 namePick w' E ∧ Below w.heap.size w w'
        else ∃ v', e = .returned (.tuple #[v', .nilIface]) ∧ w'.ownsRow w.heap.size 5 1 v' m ((sumS m (pickTo ws L L.length)).map byteV) ∧ Below w.heap.size w w') := lhd fun _ _ => rfl
      clear hown hel hbel hM hpl
      generalize pickTo ws L L.length = R at *
      generalize behindB ws L.length = bh at *
      generalize hcq : (colsTo ws L.length).length = q at *
      generalize hco : (colsOf ws).length = z at *
      have HCO := lhd hco
      clear hcq hco
      by_cases hqz : q < z
      · have HBT : Hid (bh = true) := lhd (by rw [HBH.out]; exact decide_eq_true hqz)
        have hqI : (q : Int) < (z : Int) := by omega
        clear HBH
        go_wp2_with fail
        refine (zEU _ ws HVW1.out HWW.out hwl).mono ?_
        rintro e w1 ⟨rfl, rfl⟩
        rw [HCO.out]
        go_wp2_with fail
        refine (zAH namePick 2 (by decide) _).mono ?_
        rintro e w1 ⟨E1, rfl, he1, hb1⟩
        have HE1 := lhd he1
        have HB1 := lhd (HB.out.trans (hb1.mono hsz))
        obtain ⟨u, x, rfl⟩ := he1.some (by decide)
        clear he1 hb1
        go_wp2
        go_ret2
        rw [HPS.out, if_pos HBT.out]
        exact ⟨_, rfl, HE1.out, HB1.out⟩
      · have HBT : Hid (¬ bh = true) := lhd (by rw [HBH.out, decide_eq_false hqz]; decide)
        have hqI : (z : Int) ≤ (q : Int) := by omega
        clear HBH
        go_wp2_with fail
        refine (zEU _ ws HVW1.out HWW.out hwl).mono ?_
        rintro e w1 ⟨rfl, rfl⟩
        rw [HCO.out]
        go_wp2_with fail
        refine (zFc _ R m HPM.out HPL.out HPW.out (by omega)).mono ?_
        rintro e w1 ⟨v1, rfl, ho1, hb1⟩
        have HO1 := lhd (zAd ho1 hsz)
        have HB1 := lhd (HB.out.trans (hb1.mono hsz))
        obtain ⟨ao, co, rfl, -, -⟩ := zAe ho1
        clear ho1 hb1
        go_wp2
        go_ret2
        rw [HPS.out, if_neg HBT.out]
        exact ⟨_, rfl, HO1.out, HB1.out⟩
end

section
open Go.RowKit Go.Extern.Stop Go.Stop Go.Extern
theorem ListAt.cutAt {α : Type} {f : α → Value} {w : World} {b off cap : Nat} {l : List α} (h : ListAt f w (.slice (some ⟨b, off, none⟩) l.length cap) l) (c : Nat) (hc : c ≤ l.length) :
    ListAt f w (.slice (some ⟨b, off + c, none⟩) (l.length - c) (cap - c)) (l.drop c) := by
  obtain ⟨a', cap', e, h1, h2, h3⟩ := h
  cases e
  refine ⟨_, cap - c, by rw [List.length_drop], by rw [List.length_drop]; omega, by omega, fun hp => ⟨b, off + c, rfl, fun j hj => ?_⟩⟩
  rw [List.length_drop] at hj hp
  obtain ⟨b', off', e, hcell⟩ := h3 (by omega)
  cases e
  rw [Nat.add_assoc, hcell (c + j) (by omega)]
  simp
theorem ListAt.addr0 {α : Type} {f : α → Value} {w : World} {a a' : Option Addr} {n cap : Nat} {l : List α} (h : ListAt f w (.slice a n cap) l) (h0 : n = 0) : ListAt f w (.slice a' n cap) l := by
  obtain ⟨a1, cap1, e, h1, h2, -⟩ := h
  obtain ⟨rfl, rfl, rfl⟩ : a = a1 ∧ n = l.length ∧ cap = cap1 := by simpa using e
  exact ⟨a', _, rfl, h1, h2, fun hp => by omega⟩
theorem zFl (P : List Nat) (m k : Nat) : splice (List.replicate m (byteV 0)) 0 (((P.drop (k * m)).take m).map byteV) = (pieceAt P m k).map byteV := by
  unfold splice pieceAt
  have hcl : (((P.drop (k * m)).take m).map byteV).length = min m (P.length - k * m) := by simp
  rw [List.take_zero, List.nil_append, Nat.zero_add, hcl]
  generalize hq : k * m = q at *
  apply List.ext_getElem?
  intro j
  rw [List.getElem?_append, hcl]
  by_cases hjm : j < m
  · by_cases hj : q + j < P.length
    · rw [if_pos (by omega)]
      simp [hjm, List.getD_eq_getElem?_getD, hj]
    · rw [if_neg (by omega), List.getElem?_drop, List.getElem?_replicate, if_pos (by omega)]
      simp [hjm, List.getD_eq_getElem?_getD, List.getElem?_eq_none (show P.length ≤ q + j by omega)]
  · rw [if_neg (by omega), List.getElem?_drop, List.getElem?_replicate, if_neg (by omega)]
    simp [List.getElem?_eq_none (show (List.range m).length ≤ j by simp; omega)]
end

section
open Go.RowKit Go.Extern.Stop Go.Stop Go.Extern
def MatFresh {α : Type} (f : α → Value) (te : TypeId) (base : Nat) (e : TypeId) (w : World) (v : Value) (L : List (List α)) : Prop :=
  ∃ vs : List Value, w.ownsRow base e 1 v L.length vs ∧ (∀ i, ElAt f te base w (vs.getD i nilS) (L.getD i [])) ∧ ∀ x ∈ vs, ∀ b, x.ownBlock = some b → base ≤ b
theorem zN2 {g base n c : Nat} (h : base ≤ g) : ∀ b, (Value.slice (some ⟨g, 0, none⟩) n c).ownBlock = some b → base ≤ b := by
  intro b hb
  have e : g = b := by simpa [Value.ownBlock] using hb
  omega
section
variable {α : Type} {f : α → Value} {w w2 wr : World} {v v2 x : Value} {L : List (List α)} {te e : TypeId} {base : Nat} {r : List α} {vs : List Value}
theorem MatFresh.own (h : MatFresh f te base e w v L) : MatOwn f te base e w v L := by
  obtain ⟨vs, h1, h2, -⟩ := h
  exact ⟨vs, h1, h2⟩
theorem MatFresh.empty (w : World) : MatFresh f te base e w (.slice none 0 0) [] :=
  ⟨[], World.ownsRow_nil _ _ _ _, fun i => by simpa using ElAt.nil f te base _, fun x hx => by simp at hx⟩
theorem MatFresh.app {o : Obj} (hfr : ∀ x ∈ vs, ∀ b, x.ownBlock = some b → base ≤ b) (hxb : ∀ b, x.ownBlock = some b → base ≤ b) (hne : e ≠ te) (hown : w.ownsRow base e 1 v L.length vs) (hel : ∀ i, ElAt f te base w (vs.getD i nilS) (L.getD i [])) (hx : ElAt f te base w x r)
    (hown' : w2.ownsRow base e 1 v2 (L.length + 1) (vs ++ [x])) (hg : (w.alloc o).grownBy w2 v.ownBlock) : MatFresh f te base e w2 v2 (L ++ [r]) := by
  have hb : Below w.heap.size w (w.alloc o) := (Below.refl _ _).alloc (Nat.le_refl _) _
  have hl : vs.length = L.length := by have := hown.1; omega
  refine ⟨vs ++ [x], by rw [List.length_append]; exact hown', fun i => ?_, fun y hy b hyb => ?_⟩
  · rw [zB4, zB4, hl]
    by_cases h : i < L.length
    · rw [if_pos h, if_pos h]; exact ((hel i).mono hb).grown hne (hown.alloc o) hg
    · rw [if_neg h, if_neg h]
      by_cases h2 : i = L.length
      · rw [if_pos h2, if_pos h2]; exact (hx.mono hb).grown hne (hown.alloc o) hg
      · rw [if_neg h2, if_neg h2]; exact ElAt.nil f te base _
  · rcases List.mem_append.1 hy with h | h
    · exact hfr y h b hyb
    · rw [List.mem_singleton.1 h] at hyb; exact hxb b hyb
end
theorem MatFresh.mono {α : Type} {f : α → Value} {w w' : World} {te e : TypeId} {base : Nat} {v : Value} {L : List (List α)} (h : MatFresh f te base e w v L) (hb : Below w.heap.size w w') : MatFresh f te base e w' v L := by
  obtain ⟨vs, h1, h2, h3⟩ := h
  exact ⟨vs, zAh h1 hb, fun i => (h2 i).mono hb, h3⟩
theorem MatFresh.below {α : Type} {f : α → Value} {w : World} {te e : TypeId} {base base' : Nat} {v : Value} {L : List (List α)} (h : MatFresh f te base e w v L) (hb : base' ≤ base) : MatFresh f te base' e w v L := by
  obtain ⟨vs, h1, h2, h3⟩ := h
  refine ⟨vs, zAd h1 hb, fun i => ⟨(h2 i).1, fun hp b hx => ?_⟩, fun x hx b hxb => Nat.le_trans hb (h3 x hx b hxb)⟩
  rcases (h2 i).2 hp b hx with h4 | h4
  · by_cases hi : i < vs.length
    · have e1 : vs.getD i nilS = vs[i] := by simp [List.getD_eq_getElem?_getD, hi]
      have := h3 _ (List.getElem_mem hi) b (by rw [← e1]; exact hx)
      omega
    · rw [List.getD_eq_getElem?_getD, List.getElem?_eq_none (by omega)] at hx
      cases hx
  · exact .inr h4
theorem MatFresh.far {α : Type} {f : α → Value} {w w' : World} {te e : TypeId} {base : Nat} {v : Value} {L : List (List α)} (h : MatFresh f te base e w v L) (hs : ∀ g, base ≤ g → g < w.heap.size → w'.heap[g]? = w.heap[g]?) : MatFresh f te base e w' v L := by
  obtain ⟨vs, h1, h2, h3⟩ := h
  refine ⟨vs, ⟨h1.1, ?_⟩, fun i => ?_, h3⟩
  · rcases h1.2 with h4 | ⟨g, cap, cur, h4, h5, h6, h7⟩
    · exact .inl h4
    · exact .inr ⟨g, cap, cur, h4, h5, by rw [hs g h5 (Array.getElem?_eq_some_iff.1 h6).1]; exact h6, h7⟩
  · obtain ⟨⟨a, cap, ev, k1, k2, k3⟩, k4⟩ := h2 i
    by_cases hp : 0 < (L.getD i []).length
    · obtain ⟨b, off, rfl, hc⟩ := k3 hp
      have hob : (vs.getD i nilS).ownBlock = some b := by rw [ev]; rfl
      have hlt : base ≤ b := by
        by_cases hi : i < vs.length
        · have e1 : vs.getD i nilS = vs[i] := by simp [List.getD_eq_getElem?_getD, hi]
          exact h3 _ (List.getElem_mem hi) b (by rw [← e1]; exact hob)
        · rw [List.getD_eq_getElem?_getD, List.getElem?_eq_none (by omega)] at hob
          cases hob
      have hb := hs b hlt (World.block_lt_of_cell? w _ (hc 0 hp))
      refine ⟨⟨_, cap, ev, k1, k2, fun _ => ⟨b, off, rfl, fun j hj => ?_⟩⟩, fun _ b' hb' => ?_⟩
      · rw [World.cell?_of_block (w := w) (a := ⟨b, off + j, none⟩) hb]
        exact hc j hj
      · rw [hob] at hb'
        cases hb'
        rw [hb]
        exact k4 hp b hob
    · exact ⟨⟨a, cap, ev, k1, k2, fun hp' => absurd hp' hp⟩, fun hp' => absurd hp' hp⟩
end
end Go.Proofs.YtkfimdpcadbcpaaGreatDoor
