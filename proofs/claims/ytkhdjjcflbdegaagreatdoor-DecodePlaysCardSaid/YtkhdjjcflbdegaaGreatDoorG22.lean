import Derived.Test.YtkhdjjcflbdegaaGreatDoorG09
import Derived.Test.YtkhdjjcflbdegaaGreatDoorG02
import Derived.Test.YtkhdjjcflbdegaaGreatDoorG08
import Derived.Test.YtkhdjjcflbdegaaGreatDoorG13
import Derived.WalkSpells
import Derived.WalkLawsBesides
import Derived.Laws.CopyOwn
import Derived.Test.YtkhdjjcflbdegaaGreatDoorG16
import Derived.Laws.AppendOwnNone
import Derived.Test.YtkhdjjcflbdegaaGreatDoorG17
import Derived.Test.YtkhdjjcflbdegaaGreatDoorG15
import Derived.Lib.SliceRun
import Derived.Deep.AppendLies
import Derived.Deep.RegionLaw
import Derived.Laws.Rows

section
/- Package symbol: wrong, added. -/







namespace Go.Proofs.YtkhdjjcflbdegaaGreatDoor

open Go.RowKit Go.Extern.Stop Go.Stop Go.Extern

theorem ListAt.bytes {w : World} {v : Value} {l : List Nat} (h : ListAt byteV w v l) (n : Nat) (hn : l.length = n) :
    ∃ a cap, v = .slice a n cap ∧ n ≤ cap ∧ cap ≤ maxLen ∧ (0 < n → ∃ b off, a = some ⟨b, off, none⟩ ∧ ∀ j, j < n → w.cell? ⟨b, off + j, none⟩ = some (.int .u8 ((l.getD j 0 : Nat) : Int))) := by
  subst hn
  obtain ⟨a, cap, rfl, hc, hm, h⟩ := h
  refine ⟨a, cap, rfl, hc, hm, fun hp => ?_⟩
  obtain ⟨b, off, rfl, hcell⟩ := h hp
  refine ⟨b, off, rfl, fun j hj => ?_⟩
  rw [hcell j hj, List.getD_eq_getElem?_getD, List.getElem?_eq_getElem hj]
  rfl

theorem take_succ_row {L : List (List Nat)} {k : Nat} (h : k < L.length) : L.take (k + 1) = L.take k ++ [L.getD k []] := by
  rw [List.take_add_one, List.getD_eq_getElem?_getD, List.getElem?_eq_getElem h]; rfl

set_option maxRecDepth 1000000 in
theorem wrong_any {w : World} (v : Value) (L : List (List Nat)) (n : Int) (h : MatAt byteV w v L) (hn : I64 n) :
    Calls Tryz.prog 86 #[v, .int .i64 n] w fun e w' => e = .returned (.int .i64 (checkS L n)) ∧ w = w' := by
  have hlen := h.len
  obtain ⟨a, cap, rfl, hcap, hcm, hcell⟩ := h.opens
  clear h
  obtain ⟨hn0, hn1⟩ := hn
  by_cases h0 : n < 1
  · have HR : Hid (checkS L n = 1) := Lib.hid (by unfold checkS; rw [if_pos (.inl h0)])
    clear hcell
    go_enter Tryz.func86, Tryz.ntmps86
    go_wp2
    go_ret
    exact ⟨by rw [HR.out]; rfl, rfl⟩
  · have h0' : 1 ≤ n := by omega
    by_cases h1 : 64 < n
    · have HR : Hid (checkS L n = 1) := Lib.hid (by unfold checkS; rw [if_pos (.inr h1)])
      clear hcell h0
      go_enter Tryz.func86, Tryz.ntmps86
      go_wp2
      go_ret
      exact ⟨by rw [HR.out]; rfl, rfl⟩
    · have h1' : n ≤ 64 := by omega
      have HR : Hid (∀ b, L.all (fun r => decide ((r.length : Int) = n)) = b → checkS L n = if b then 0 else 2) := Lib.hid fun b e => by
        unfold checkS; rw [if_neg (by omega), e]
      have HC := Lib.hid hcell
      clear hcell h0 h1
      go_enter Tryz.func86, Tryz.ntmps86
      go_wp2
      go_loopw [15] (fun i wr => ∃ k : Nat, k ≤ L.length ∧ i = .int .i64 k ∧ (∀ j, j < k → ((L.getD j []).length : Int) = n) ∧ w = wr) (fun i _ => L.length - (intOf i).toNat)
      case atStart => exact ⟨0, Nat.zero_le _, rfl, fun j hj => by omega, rfl⟩
      case round =>
        obtain ⟨k, hk, rfl, hz, rfl⟩ := hrel
        by_cases hlt : k < L.length
        · obtain ⟨b, off, rfl, hcc⟩ := HC.out (by omega)
          obtain ⟨x, hx, hlx⟩ := hcc k hlt
          have hx' : w.cell? ⟨b, off + k, none⟩ = some x := hx
          have HF : Hid (((L.getD k []).length : Int) ≠ n → L.all (fun r => decide ((r.length : Int) = n)) = false) := Lib.hid fun h => by
            rw [List.all_eq_false]; exact ⟨_, getD_mem_row hlt, by simpa using h⟩
          have HT : Hid (((L.getD k []).length : Int) = n → ∀ j, j < k + 1 → ((L.getD j []).length : Int) = n) := Lib.hid fun h j hj => by
            by_cases e : j = k
            · rw [e]; exact h
            · exact hz j (by omega)
          have hrl := hlx.len
          obtain ⟨ra, rc, rfl, -, -, -⟩ := hlx
          clear hcc hx hz
          generalize (L.getD k []).length = m at *
          by_cases he : (m : Int) = n
          · have hb2 : ((m : Int) != n) = false := by simpa using he
            have hb1 : ((m : Int) == n) = true := by simpa using he
            have HT' := Lib.hid (HT.out he)
            clear HF HT he
            go_wp2
            go_roundw
            case rel => exact ⟨k + 1, by omega, by go_num, HT'.out, trivial⟩
            case measure => simp [intOf]; omega
          · have hb2 : ((m : Int) != n) = true := by simpa using he
            have hb1 : ((m : Int) == n) = false := by simpa using he
            have HF' := Lib.hid (HF.out he)
            clear HF HT he
            go_wp2
            go_ret
            exact ⟨by rw [HR.out _ HF'.out]; rfl, rfl⟩
        · have hk' : k = L.length := by omega
          have HA : Hid (L.all (fun r => decide ((r.length : Int) = n)) = true) := Lib.hid (by
            rw [List.all_eq_true]
            intro r hr
            obtain ⟨j, hj, rfl⟩ := List.getElem_of_mem hr
            have := hz j (by omega)
            simp only [List.getD_eq_getElem?_getD, List.getElem?_eq_getElem hj, Option.getD_some] at this
            exact decide_eq_true this)
          clear hz
          go_wp2
          go_ret
          exact ⟨by rw [HR.out _ HA.out]; rfl, rfl⟩

set_option maxRecDepth 1000000 in
set_option maxHeartbeats 4000000 in
/-- The sum of symbols of n bytes, in new memory. -/
theorem added_any {w : World} (v : Value) (L : List (List Nat)) (n : Nat) (h : MatAt byteV w v L) (hl : ∀ r ∈ L, r.length = n) (hw : ∀ r ∈ L, Octets r) (hn : n ≤ 281474976710656) :
    Calls Tryz.prog 89 #[.int .i64 (n : Int), v] w fun e w' => ∃ v', e = .returned v' ∧ w'.ownsRow w.heap.size 5 1 v' n ((sumS n L).map byteV) ∧ Below w.heap.size w w' := by
  obtain ⟨i0, hi, hz0, hz1, hz2⟩ := info_parts info_u8
  have hlen := h.len
  obtain ⟨a, cap, rfl, hcap, hcm, hcell⟩ := h.opens
  have HC := Lib.hid hcell
  have HL := Lib.hid hl
  have HW := Lib.hid hw
  clear h hcell hl hw
  go_enter Tryz.func89, Tryz.ntmps89
  go_wp2_with (at_make; refine wpList_make_full _ rfl _ _ 37 rfl w.heap.size 5 i0 (.int .u8 0) 1 Tryz.underlying37 hi hz0 hz1 .i64 .i64 _ _ n rfl rfl rfl rfl (by rw [hz2]; omega) (by unfold maxLen; omega) (Nat.le_refl _) ?_; intro w0 hown0 hgrow0; have hb0 := Lib.hid ((Below.refl w.heap.size w).grown hgrow0 (Nat.le_refl _) (fun k hk => by cases hk)); have ho0 := Lib.hid hown0; clear hown0 hgrow0)
  go_loopw [14] (fun i wr => ∃ k : Nat, k ≤ L.length ∧ i = .int .i64 k ∧ wr.ownsRow w.heap.size 5 1 (.slice (some ⟨w.heap.size, 0, none⟩) n n) n ((sumS n (L.take k)).map byteV) ∧ Below w.heap.size w wr) (fun i _ => L.length - (intOf i).toNat)
  case atStart => exact ⟨0, Nat.zero_le _, rfl, by rw [List.take_zero, sumS_nil, List.map_replicate]; have h := ho0.out; rw [Nat.mul_one] at h; exact toList_madeCells_one (.int .u8 0) n ▸ h, hb0.out⟩
  case round =>
    clear hb0 ho0
    obtain ⟨k, hk, rfl, hown, hbel⟩ := hrel
    have HO := Lib.hid hown
    have HB := Lib.hid hbel
    have hsz := hbel.size
    by_cases hlt : k < L.length
    · obtain ⟨b, off, rfl, hcc⟩ := HC.out (by omega)
      obtain ⟨x, hx, hlx⟩ := hcc k hlt
      have hx1 : wr.cell? ⟨b, off + k, none⟩ = some x := (hbel.cell (p := ⟨b, off + k, none⟩) (World.block_lt_of_cell? w _ hx)).trans hx
      have hmem := getD_mem_row hlt
      have hrl := HL.out _ hmem
      have HRW := Lib.hid (HW.out _ hmem)
      have HS : Hid (sumS n (L.take (k + 1)) = xorW (sumS n (L.take k)) (L.getD k [])) := Lib.hid (by rw [take_succ_row hlt, sumS_snoc hrl])
      have HSO := Lib.hid (sumS_octets (L := L.take k) (fun r hr => HW.out r (List.mem_of_mem_take hr)) n)
      have HSL := Lib.hid (sumS_length n (L.take k))
      have HRL := Lib.hid hrl
      obtain ⟨ra, rc, rfl, hrc, hrm, hrcell⟩ := hlx.bytes n hrl
      have HRC := Lib.hid hrcell
      clear hcc hx hlx hmem hrl hown hrcell
      have HZ : Hid (k = 0 → sumS n (L.take k) = List.replicate n 0) := Lib.hid fun e => by rw [e, List.take_zero, sumS_nil]
      generalize L.getD k [] = r at *
      generalize hS1 : sumS n (L.take (k + 1)) = S1 at HS
      have HS1 := Lib.hid hS1
      clear hS1
      generalize sumS n (L.take k) = S0 at *
      by_cases h0 : k = 0
      · have hk0 : ((k : Int) == 0) = true := by simp [h0]
        obtain ⟨hbg, hcl, hheap⟩ := own_full HO.out
        have HH := Lib.hid hheap
        have HCL := Lib.hid hcl
        have HX : Hid (S1 = r) := Lib.hid (by
          have hle : S0.length = r.length := by rw [HSL.out, HRL.out]
          rw [HS.out]
          apply ext_getD (by rw [xorW_length hle, hle])
          intro j hj
          rw [xorW_getD hle, HZ.out h0]
          simp [List.getD_eq_getElem?_getD, List.getElem?_replicate]
          split <;> simp)
        clear hheap hcl HZ h0
        go_wp2_with ((with_reducible show wpList _ _ _ (⟨some 23, _, _, _, _, _⟩ :: _) _ _); refine wpList_copy_splice rfl (.tmp 21) (.tmp 22) 37 37 rfl 5 Tryz.underlying37 (by rw [hi]; exact congrArg some hz1) (some ⟨w.heap.size, 0, none⟩) ra n n n rc rfl rfl w.heap.size 0 (S0.map byteV) 5 HH.out (r.map byteV) (by rw [List.length_map, HRL.out]; simp) (fun hp => ⟨rfl, by
          rw [List.length_map, HRL.out] at hp
          obtain ⟨b2, off2, e2, h2⟩ := HRC.out hp
          refine ⟨⟨b2, off2, none⟩, e2, fun j u hu => ?_⟩
          have hj : j < r.length := by have := (List.getElem?_eq_some_iff.1 hu).1; simpa using this
          have h3 := h2 j (by rw [← HRL.out]; exact hj)
          rw [Go.WideShapes.add_plain, HB.out.cell (p := ⟨b2, off2 + j, none⟩) (World.block_lt_of_cell? w _ h3), h3]
          simpa [hj, byteV, List.getD_eq_getElem?_getD] using hu⟩) (by have h1 := HRL.out; have h2 := HSL.out; simp; omega) (fun u hu => by obtain ⟨y, _, rfl⟩ := List.mem_map.1 hu; rfl) w.heap.size w HB.out (Nat.le_refl _) ?_; intro w2 hg2 hb2; have HG2 := hg2; have HB2 := Lib.hid hb2; clear hg2 hb2)
        go_wp2
        go_roundw
        case rel => exact ⟨k + 1, by omega, by go_num, by
          have h := HG2.out
          rw [splice_all (by rw [List.length_map, List.length_map, HRL.out, HSL.out])] at h
          rw [HS1.out, HX.out]
          exact own_of_heap (Nat.le_refl _) (by rw [List.length_map, HRL.out]) (by unfold maxLen; omega) h, HB2.out⟩
        case measure => simp [intOf]; omega
      · have hk0 : ((k : Int) == 0) = false := by simp [h0]
        clear HZ h0
        go_wp2
        go_loopw [26] (fun j wy => ∃ t : Nat, t ≤ n ∧ j = .int .i64 t ∧ (∃ zs : List Nat, zs.length = n ∧ Octets zs ∧ (∀ j, j < n → zs.getD j 0 = if j < t then S0.getD j 0 ^^^ r.getD j 0 else S0.getD j 0) ∧ wy.ownsRow w.heap.size 5 1 (.slice (some ⟨w.heap.size, 0, none⟩) n n) n (zs.map byteV)) ∧ Below w.heap.size w wy) (fun j _ => n - (intOf j).toNat)
        case atStart => exact ⟨0, Nat.zero_le _, rfl, ⟨S0, HSL.out, HSO.out, fun j _ => by simp, HO.out⟩, HB.out⟩
        case round =>
          clear hx1 hbel hsz HB HO
          obtain ⟨t, ht, rfl, ⟨zs, hzl, hzo, hzv, hown⟩, hbel⟩ := hrel
          have hsz := hbel.size
          by_cases hlt2 : t < n
          · obtain ⟨b2, off2, rfl, h2⟩ := HRC.out (by omega)
            have hr0 := h2 t hlt2
            have hy1 := (hbel.cell (p := ⟨b2, off2 + t, none⟩) (World.block_lt_of_cell? w _ hr0)).trans hr0
            have hy2 : wr.cell? ⟨w.heap.size, t, none⟩ = some (.int .u8 ((S0.getD t 0 : Nat) : Int)) := by
              rw [hown.cellAt t (by omega)]
              have e := hzv t hlt2
              rw [if_neg (by omega)] at e
              have : t < zs.length := by omega
              simp only [List.getD_eq_getElem?_getD, List.getElem?_eq_getElem this, Option.getD_some] at e
              simp [this, byteV, e]
            have hf1 : wr.frozen? ⟨w.heap.size, t, none⟩ = false := hown.frozenAt t
            have hxlt := HSO.out.getD t
            have hylt := HRW.out.getD t
            have hlt3 : S0.getD t 0 ^^^ r.getD t 0 < 256 := Nat.xor_lt_two_pow (n := 8) hxlt hylt
            have hbx := bits_xor_u8_nat (S0.getD t 0) (r.getD t 0) hxlt hylt
            have HZ1 : Hid (∀ u, S0.getD t 0 ^^^ r.getD t 0 = u → ∀ j, j < n → (zs.set t u).getD j 0 = if j < t + 1 then S0.getD j 0 ^^^ r.getD j 0 else S0.getD j 0) := Lib.hid fun u e j hj => by
              rw [getD_set _ _ _ _ _ (by omega)]
              by_cases e1 : j = t
              · subst e1; rw [if_pos rfl, if_pos (by omega), e]
              · rw [if_neg e1, hzv j hj]
                by_cases e2 : j < t
                · rw [if_pos e2, if_pos (by omega)]
                · rw [if_neg e2, if_neg (by omega)]
            have HO := Lib.hid hown
            have HB := Lib.hid hbel
            have HZL := Lib.hid hzl
            have HZO := Lib.hid hzo
            have HL3 := Lib.hid hlt3
            clear h2 hr0 hown hbel hzl hzo hzv hxlt hylt hlt3
            generalize S0.getD t 0 = X at *
            generalize r.getD t 0 = Y at *
            go_wp2
            go_roundw
            case rel => exact ⟨t + 1, by omega, by go_num, ⟨zs.set t (X ^^^ Y), by simpa using HZL.out, HZO.out.set _ _ HL3.out, HZ1.out _ rfl, by rw [List.map_set]; exact (HO.out.stored t (.int .u8 ((X ^^^ Y : Nat) : Int))).1⟩, HB.out.setCell (p := ⟨w.heap.size, t, none⟩) (Nat.le_refl _) _⟩
            case measure => simp [intOf]; omega
          · have ht' : t = n := by omega
            have HV : Hid (zs = S1) := Lib.hid (by
              have hle : S0.length = r.length := by rw [HSL.out, HRL.out]
              rw [HS.out]
              apply ext_getD (by rw [hzl, xorW_length hle, HSL.out])
              intro j hj
              have e := hzv j (by omega)
              rw [if_pos (by omega), ← xorW_getD hle] at e
              exact e)
            have HO := Lib.hid hown
            have HB := Lib.hid hbel
            clear hown hbel hzv hzl hzo
            go_wp2
            go_roundw
            case rel => exact ⟨k + 1, by omega, by go_num, by rw [HS1.out, ← HV.out]; exact HO.out, HB.out⟩
            case measure => simp [intOf]; omega
    · have hk' : k = L.length := by omega
      have HE : Hid (L.take k = L) := Lib.hid (by rw [hk', List.take_length])
      rw [HE.out] at HO
      go_wp2
      go_ret
      exact ⟨_, rfl, HO.out, HB.out⟩
end Go.Proofs.YtkhdjjcflbdegaaGreatDoor
end

section
/- Append of a slice that is only read, onto a row of the call's own; what a row of the call's own gives. -/
namespace Go.Proofs.YtkhdjjcflbdegaaGreatDoor
open Go.RowKit Go.Extern.Stop Go.Stop Go.Extern

theorem Word.set {ws : List Nat} (h : Word ws) (k x : Nat) (hx : x < 18446744073709551616) : Word (ws.set k x) := by
  intro y hy
  rcases List.mem_or_eq_of_mem_set hy with hy | rfl
  · exact h y hy
  · exact hx

theorem not_u64 (x : Nat) (hx : x < 18446744073709551616) : bits BinOp.xor IntKind.u64 (if IntKind.u64.signed = true then -1 else IntKind.u64.max) (x : Int) = ((18446744073709551615 ^^^ x : Nat) : Int) := by
  have e : (if IntKind.u64.signed = true then (-1 : Int) else IntKind.u64.max) = ((18446744073709551615 : Nat) : Int) := by decide
  rw [e]
  exact bits_xor_u64_nat _ _ (by decide) hx




end Go.Proofs.YtkhdjjcflbdegaaGreatDoor
end

section
/- Package elim: formed, over, Rank, Clashed, Whole; slices.Clone; (equation).clone. -/
namespace Go.Proofs.YtkhdjjcflbdegaaGreatDoor
open Go.RowKit Go.Extern.Stop Go.Stop Go.Extern

theorem eshr_zero (x b : Nat) : (((x : Int) / 2 ^ b) == 0) = decide (x / 2 ^ b = 0) := by
  have e : ((x : Int) / 2 ^ b) = ((x / 2 ^ b : Nat) : Int) := by simp
  rw [e]
  by_cases h : x / 2 ^ b = 0
  · rw [h]; rfl
  · rw [decide_eq_false h]
    simp only [beq_eq_false_iff_ne, ne_eq]
    omega

set_option maxRecDepth 1000000 in
theorem eformed_any {w : World} (v : Value) (r : List Nat) (n : Nat) (h : ListAt wordV w v r) (hw : Word r) (hn : n ≤ 4096) :
    Calls Tryz.prog 66 #[v, .int .i64 (n : Int)] w fun e w' => e = .returned (.bool (wholeB n r)) ∧ w = w' := by
  have hlen := h.len
  have HS := Lib.hid (sizeI_of hn)
  have hK := kOf_le hn
  obtain ⟨a, cap, rfl, hcap, -, hcell⟩ := h
  by_cases hl : r.length = kOf n
  · have hwl := whole_last hw hl
    by_cases h0 : n % 64 = 0
    · have HR : Hid (wholeB n r = true) := Lib.hid (by rw [hwl, decide_eq_true h0]; rfl)
      have hb : ((r.length : Int) == (kOf n : Int)) = true := by simp; omega
      have hb2 : ((r.length : Int) != (kOf n : Int)) = false := by simp; omega
      have hm : ((n : Int) % 64 == 0) = true := by simp; omega
      clear hcell hw hwl hl h0
      generalize wholeB n r = R at *
      generalize kOf n = K at *
      go_enter Tryz.func66, Tryz.ntmps66
      go_wp2_with fail
      refine (Size_any (n : Int) (by omega)).mono ?_
      rintro e w1 ⟨rfl, rfl⟩
      rw [HS.out]
      go_wp2
      go_ret
      exact ⟨by rw [HR.out]; rfl, rfl⟩
    · have hlt : n / 64 < r.length := by unfold kOf at hl; omega
      obtain ⟨b, off, rfl, hc⟩ := hcell (by omega)
      have hx := hc (n / 64) hlt
      have e : r[n / 64] = r.getD (n / 64) 0 := by simp [hlt]
      rw [e] at hx
      have hxlt := hw.getD (n / 64)
      have HR : Hid (wholeB n r = decide (r.getD (n / 64) 0 / 2 ^ (n % 64) = 0)) := Lib.hid (by rw [hwl, decide_eq_false h0]; rfl)
      have hb : ((r.length : Int) == (kOf n : Int)) = true := by simp; omega
      have hb2 : ((r.length : Int) != (kOf n : Int)) = false := by simp; omega
      have hm : ((n : Int) % 64 == 0) = false := by simp; omega
      have hlt2 : (n : Int) / 64 < (r.length : Int) := by omega
      have hy : w.cell? ⟨b, off + n / 64, none⟩ = some (.int .u64 ((r.getD (n / 64) 0 : Nat) : Int)) := hx
      clear hcell hw hwl h0 hx hc e
      generalize r.getD (n / 64) 0 = x at *
      have hz := eshr_zero x (n % 64)
      generalize hd : decide (x / 2 ^ (n % 64) = 0) = D at *
      clear hd
      generalize wholeB n r = R at *
      generalize kOf n = K at *
      clear hl
      cases D with
      | true =>
        go_enter Tryz.func66, Tryz.ntmps66
        go_wp2_with fail
        refine (Size_any (n : Int) (by omega)).mono ?_
        rintro e w1 ⟨rfl, rfl⟩
        rw [HS.out]
        go_wp2
        go_ret
        exact ⟨by rw [HR.out]; rfl, rfl⟩
      | false =>
        go_enter Tryz.func66, Tryz.ntmps66
        go_wp2_with fail
        refine (Size_any (n : Int) (by omega)).mono ?_
        rintro e w1 ⟨rfl, rfl⟩
        rw [HS.out]
        go_wp2
        go_ret
        exact ⟨by rw [HR.out]; rfl, rfl⟩
  · have HR := Lib.hid (wholeB_len hl)
    have hb : ((r.length : Int) == (kOf n : Int)) = false := by simp; omega
    have hb2 : ((r.length : Int) != (kOf n : Int)) = true := by simp; omega
    clear hl hcell hw
    generalize wholeB n r = R at *
    generalize kOf n = K at *
    go_enter Tryz.func66, Tryz.ntmps66
    go_wp2_with fail
    refine (Size_any (n : Int) (by omega)).mono ?_
    rintro e w1 ⟨rfl, rfl⟩
    rw [HS.out]
    go_wp2
    go_ret
    exact ⟨by rw [HR.out]; rfl, rfl⟩

/-! ### slices.Clone -/

set_option maxRecDepth 1000000 in
theorem wClone_any {w : World} (v : Value) (r : List Nat) (h : ListAt wordV w v r) (hl : r.length ≤ 100000) :
    Calls Tryz.prog 101 #[v] w fun e w' => ∃ v', e = .returned v' ∧ w'.ownsRow w.heap.size 163 1 v' r.length (r.map wordV) ∧ (v = nilS → v' = nilS) ∧ Below w.heap.size w w' := by
  obtain ⟨i0, hi, hz0, hz1, hz2⟩ := info_parts info_u64
  have HL := Lib.hid h
  obtain ⟨a, cap, rfl, -, -, hc⟩ := h
  cases a with
  | none =>
    have hr : r = [] := by
      apply List.eq_nil_of_length_eq_zero
      apply Nat.eq_zero_of_not_pos
      intro hp
      obtain ⟨b, off, e, _⟩ := hc hp
      cases e
    subst hr
    clear hc
    have hq : (binOp .eql 79 (.slice none 0 cap) (.slice none 0 0)).run Tryz.prog w = .ok (.bool true) w := Lib.run_eql_slice_nil w 79 163 none 0 cap 0 0 Tryz.underlying79
    go_enter Tryz.func101, Tryz.ntmps101
    go_wp2
    go_ret
    exact ⟨_, rfl, World.ownsRow_nil _ _ _ _, fun _ => rfl, Below.refl _ _⟩
  | some ad =>
    clear hc
    have HB0 := Lib.hid ((Below.refl w.heap.size w).alloc (Nat.le_refl _) (.cells #[] 163))
    have HO0 := Lib.hid (World.ownsRow_made (base := w.heap.size) (e := 163) (size := 1) w #[] 0 (Nat.le_refl _) (by decide) rfl)
    have HLA := Lib.hid (HL.out.mono HB0.out)
    have hq : (binOp .eql 79 (.slice (some ad) r.length cap) (.slice none 0 0)).run Tryz.prog w = .ok (.bool false) w := Lib.run_eql_slice_nil w 79 163 (some ad) r.length cap 0 0 Tryz.underlying79
    go_enter Tryz.func101, Tryz.ntmps101
    go_wp2_with (at_builtin; refine wpList_append_of (f := wordV) _ rfl (.tmp 5) (.tmp 6) 79 rfl w.heap.size 163 i0 (.int .u64 0) 8 Tryz.underlying79 hi hz0 hz1 hz2 rfl _ 0 [] rfl HO0.out _ r rfl HLA.out (fun y _ => rfl) (by unfold maxLen; omega) (by omega) (by simp) ?_; intro o w1 hown1 hgrow1; have hb1 := Lib.hid (HB0.out.grown hgrow1 (by simp) (fun k hk => (HO0.out.lt k hk).1)); rw [Nat.zero_add, List.nil_append] at hown1; have ho1 := Lib.hid hown1; clear hown1 hgrow1)
    go_ret
    exact ⟨_, rfl, ho1.out, (by intro h; cases h), hb1.out⟩

set_option maxRecDepth 1000000 in
theorem bClone_any {w : World} (v : Value) (r : List Nat) (h : ListAt byteV w v r) (hl : r.length ≤ 100000) :
    Calls Tryz.prog 102 #[v] w fun e w' => ∃ v', e = .returned v' ∧ w'.ownsRow w.heap.size 5 1 v' r.length (r.map byteV) ∧ (v = nilS → v' = nilS) ∧ Below w.heap.size w w' := by
  obtain ⟨i0, hi, hz0, hz1, hz2⟩ := info_parts info_u8
  have HL := Lib.hid h
  obtain ⟨a, cap, rfl, -, -, hc⟩ := h
  cases a with
  | none =>
    have hr : r = [] := by
      apply List.eq_nil_of_length_eq_zero
      apply Nat.eq_zero_of_not_pos
      intro hp
      obtain ⟨b, off, e, _⟩ := hc hp
      cases e
    subst hr
    clear hc
    have hq : (binOp .eql 37 (.slice none 0 cap) (.slice none 0 0)).run Tryz.prog w = .ok (.bool true) w := Lib.run_eql_slice_nil w 37 5 none 0 cap 0 0 Tryz.underlying37
    go_enter Tryz.func102, Tryz.ntmps102
    go_wp2
    go_ret
    exact ⟨_, rfl, World.ownsRow_nil _ _ _ _, fun _ => rfl, Below.refl _ _⟩
  | some ad =>
    clear hc
    have HB0 := Lib.hid ((Below.refl w.heap.size w).alloc (Nat.le_refl _) (.cells #[] 5))
    have HO0 := Lib.hid (World.ownsRow_made (base := w.heap.size) (e := 5) (size := 1) w #[] 0 (Nat.le_refl _) (by decide) rfl)
    have HLA := Lib.hid (HL.out.mono HB0.out)
    have hq : (binOp .eql 37 (.slice (some ad) r.length cap) (.slice none 0 0)).run Tryz.prog w = .ok (.bool false) w := Lib.run_eql_slice_nil w 37 5 (some ad) r.length cap 0 0 Tryz.underlying37
    go_enter Tryz.func102, Tryz.ntmps102
    go_wp2_with (at_builtin; refine wpList_append_of (f := byteV) _ rfl (.tmp 5) (.tmp 6) 37 rfl w.heap.size 5 i0 (.int .u8 0) 1 Tryz.underlying37 hi hz0 hz1 hz2 rfl _ 0 [] rfl HO0.out _ r rfl HLA.out (fun y _ => rfl) (by unfold maxLen; omega) (by omega) (by simp) ?_; intro o w1 hown1 hgrow1; have hb1 := Lib.hid (HB0.out.grown hgrow1 (by simp) (fun k hk => (HO0.out.lt k hk).1)); rw [Nat.zero_add, List.nil_append] at hown1; have ho1 := Lib.hid hown1; clear hown1 hgrow1)
    go_ret
    exact ⟨_, rfl, ho1.out, (by intro h; cases h), hb1.out⟩


/-! ### what a system tells of itself -/
abbrev sysP (b : Nat) : Value := .pointer (some ⟨b, 0, none⟩)
abbrev nilP : Value := .pointer none

theorem over_nil {w : World} : Calls Tryz.prog 65 #[nilP] w fun e w' => e = .returned (.bool true) ∧ w = w' := by
  go_enter Tryz.func65, Tryz.ntmps65
  go_wp2
  go_ret
  exact ⟨rfl, rfl⟩
theorem over_any {w : World} (b : Nat) (cl : Bool) (h : w.cell? ⟨b, 4, none⟩ = some (.bool cl)) : Calls Tryz.prog 65 #[sysP b] w fun e w' => e = .returned (.bool cl) ∧ w = w' := by
  go_enter Tryz.func65, Tryz.ntmps65
  go_wp2
  go_ret
  exact ⟨rfl, rfl⟩
theorem Rank_nil {w : World} : Calls Tryz.prog 36 #[nilP] w fun e w' => e = .returned (.int .i64 0) ∧ w = w' := by
  go_enter Tryz.func36, Tryz.ntmps36
  go_wp2
  go_ret
  exact ⟨rfl, rfl⟩
theorem Rank_any {w : World} (b r : Nat) (h : w.cell? ⟨b, 3, none⟩ = some (.int .i64 (r : Int))) : Calls Tryz.prog 36 #[sysP b] w fun e w' => e = .returned (.int .i64 (r : Int)) ∧ w = w' := by
  go_enter Tryz.func36, Tryz.ntmps36
  go_wp2
  go_ret
  exact ⟨rfl, rfl⟩
theorem below_drawn {w : World} (n : Nat) : Below w.heap.size w (w.drewN n) := below_draws (Below.refl _ _) n
theorem elWhole_nil {w : World} : Calls Tryz.prog 84 #[nilP] w fun e w' => e = .returned (.bool false) ∧ Below w.heap.size w w' := by
  have HCall : Hid (∀ nd, Calls Tryz.prog 65 #[nilP] (w.drewN nd) fun e w' => e = .returned (.bool true) ∧ w' = w.drewN nd) := Lib.hid fun nd => over_nil.mono (by rintro e w' ⟨rfl, rfl⟩; exact ⟨rfl, rfl⟩)
  go_enter Tryz.func84, Tryz.ntmps84
  go_wp2_with fail
  go_quiet (exact Calls.quiet_of_same (HCall.out _))
  go_wp2
  go_ret
  exact ⟨rfl, below_drawn _⟩
theorem elWhole_any {w : World} (b n r : Nat) (cl : Bool) (h0 : w.cell? ⟨b, 0, none⟩ = some (.int .i64 (n : Int))) (h3 : w.cell? ⟨b, 3, none⟩ = some (.int .i64 (r : Int))) (h4 : w.cell? ⟨b, 4, none⟩ = some (.bool cl)) :
    Calls Tryz.prog 84 #[sysP b] w fun e w' => e = .returned (.bool (!cl && decide (r = n))) ∧ Below w.heap.size w w' := by
  have HCall : Hid (∀ nd, Calls Tryz.prog 65 #[sysP b] (w.drewN nd) fun e w' => e = .returned (.bool cl) ∧ w' = w.drewN nd) := Lib.hid fun nd => (over_any b cl (((below_drawn nd).cell (p := ⟨b, 4, none⟩) (World.block_lt_of_cell? w _ h4)).trans h4)).mono (by rintro e w' ⟨rfl, rfl⟩; exact ⟨rfl, rfl⟩)
  have he : ((r : Int) == (n : Int)) = decide (r = n) := by
    by_cases e : r = n
    · simp [e]
    · rw [decide_eq_false e]; simp; omega
  have HE := Lib.hid he
  cases cl with
  | true =>
    clear he
    go_enter Tryz.func84, Tryz.ntmps84
    go_wp2_with fail
    go_quiet (exact Calls.quiet_of_same (HCall.out _))
    go_wp2
    go_ret
    exact ⟨rfl, below_drawn _⟩
  | false =>
    generalize decide (r = n) = D at *
    go_enter Tryz.func84, Tryz.ntmps84
    go_wp2_with fail
    go_quiet (exact Calls.quiet_of_same (HCall.out _))
    go_wp2
    go_ret
    exact ⟨by simp, below_drawn _⟩

/-! ### (equation).clone -/
theorem eq_laid (w : World) (r s : Value) : ∃ w0, w0 = (w.alloc (.cells #[r, s] 120)).alloc (.cells #[nilS, nilS] 120) ∧ Below w.heap.size w w0 ∧ w0.heap.size = w.heap.size + 2 ∧
    w0.cell? ⟨w.heap.size, 0, none⟩ = some r ∧ w0.cell? ⟨w.heap.size, 1, none⟩ = some s ∧ w0.heap[w.heap.size + 1]? = some (.cells #[nilS, nilS] 120 (0, 0)) := by
  have h1 : (w.alloc (.cells #[r, s] 120)).heap[w.heap.size]? = some (.cells #[r, s] 120 (0, 0)) := heap_alloc_new w _
  have hz : (w.alloc (.cells #[r, s] 120)).heap.size = w.heap.size + 1 := World.size_alloc _ _
  have h2 : ((w.alloc (.cells #[r, s] 120)).alloc (.cells #[nilS, nilS] 120)).heap[w.heap.size]? = some (.cells #[r, s] 120 (0, 0)) := by
    rw [Below.heap_alloc _ _ _ (by omega)]; exact h1
  refine ⟨_, rfl, ((Below.refl _ _).alloc (Nat.le_refl _) _).alloc (by omega) _, by rw [World.size_alloc, hz], cell_of_heap h2 rfl, cell_of_heap h2 rfl, ?_⟩
  have := heap_alloc_new (w.alloc (.cells #[r, s] 120)) (.cells #[nilS, nilS] 120)
  rwa [hz] at this

set_option maxRecDepth 1000000 in
set_option maxHeartbeats 1000000 in
theorem eqClone_any {w : World} (vr vs : Value) (r s : List Nat) (h1 : ListAt wordV w vr r) (h2 : ListAt byteV w vs s) (hl : r.length ≤ 100000) (hl2 : s.length ≤ 100000) :
    Calls Tryz.prog 67 #[.agg #[vr, vs]] w fun e w' => ∃ v1 v2, e = .returned (.agg #[v1, v2]) ∧ w'.ownsRow w.heap.size 163 1 v1 r.length (r.map wordV) ∧ w'.ownsRow w.heap.size 5 1 v2 s.length (s.map byteV) ∧
      (vr = nilS → v1 = nilS) ∧ (vs = nilS → v2 = nilS) ∧ Below w.heap.size w w' := by
  obtain ⟨w0, hw0, hb0, hs0, hc1, hc2, hres⟩ := eq_laid w vr vs
  have HB0 := Lib.hid hb0
  have HW0 := Lib.hid hw0
  have HRES := Lib.hid hres
  have HR := Lib.hid (h1.mono hb0)
  have HS := Lib.hid (h2.mono hb0)
  clear hb0 hw0 hres h1 h2
  have hbd : Below w0.heap.size w0 w0.drew := (Below.refl _ _).drew
  have HRD := Lib.hid (HR.out.mono hbd)
  have HSD := Lib.hid (HS.out.mono hbd)
  have HC2 : Hid (w0.drew.cell? ⟨w.heap.size, 1, none⟩ = some vs) := Lib.hid hc2
  have HRESD : Hid (w0.drew.heap[w.heap.size + 1]? = some (.cells #[nilS, nilS] 120 (0, 0))) := Lib.hid HRES.out
  have HBD := Lib.hid HB0.out.drew
  have hsz : w0.drew.heap.size = w.heap.size + 2 := hs0
  clear hbd
  go_enter Tryz.func67, Tryz.ntmps67
  go_wp2_with fail
  rw [← HW0.out]
  go_region_law (first
    | (go_simp; go_at_call 101; refine (wClone_any _ r HRD.out hl).mono ?_; rintro e wA ⟨vA, rfl, hoA, hnA, hbA⟩; have hcA : wA.cell? ⟨w.heap.size, 1, none⟩ = some vs := (hbA.cell (p := ⟨w.heap.size, 1, none⟩) (show w.heap.size < w0.drew.heap.size by omega)).trans HC2.out; have HRESA := Lib.hid ((hbA.block (w.heap.size + 1) (by omega)).trans HRESD.out); have HOA := Lib.hid (ownsRow_base hoA (show w.heap.size ≤ w0.drew.heap.size by omega)); have HSA := Lib.hid (HSD.out.mono hbA); have HBA := Lib.hid (HBD.out.trans (hbA.mono (by omega))); have hszA : w.heap.size + 2 ≤ wA.heap.size := (by have := hbA.size; omega); have HNA := Lib.hid hnA; obtain ⟨aA, cA, rfl, -, -⟩ := own_open hoA; clear hoA hnA hbA)
    | (go_simp; go_at_call 102; refine (bClone_any _ s HSA.out hl2).mono ?_; rintro e wB ⟨vB, rfl, hoB, hnB, hbB⟩; have hRB := (hbB.block (w.heap.size + 1) (by omega)).trans HRESA.out; have HRB := Lib.hid hRB; have hcB0 := cell_of_heap (j := 0) (u := nilS) hRB rfl; have hcB1 := cell_of_heap (j := 1) (u := nilS) hRB rfl; have hfB0 := frozen_of_heap (j := 0) hRB; have hfB1 := frozen_of_heap (j := 1) hRB; have HOB := Lib.hid hoB; have HOA2 := Lib.hid (owns_kept HOA.out hbB); have HNB := Lib.hid hnB; have HBB := Lib.hid (HBA.out.trans (hbB.mono (by omega))); obtain ⟨aB, cB, rfl, -, -⟩ := own_open hoB; clear hoB hnB hbB hRB))
  all_goals
    have HRES1 := Lib.hid (heap_setCell_at (j := 1) (u := .slice aB s.length cB) (heap_setCell_at (j := 0) (u := .slice aA r.length cA) HRB.out))
    have HO1 := Lib.hid (own_set (own_set HOA2.out HRB.out (by decide) 0 (.slice aA r.length cA)) (heap_setCell_at (j := 0) (u := .slice aA r.length cA) HRB.out) (by decide) 1 (.slice aB s.length cB))
    have HO2 := Lib.hid (own_set (own_set (ownsRow_base HOB.out (show w.heap.size ≤ wA.heap.size by omega)) HRB.out (by decide) 0 (.slice aA r.length cA)) (heap_setCell_at (j := 0) (u := .slice aA r.length cA) HRB.out) (by decide) 1 (.slice aB s.length cB))
    have HBF := Lib.hid ((HBB.out.setCell (p := ⟨w.heap.size + 1, 0, none⟩) (Nat.le_succ _) (.slice aA r.length cA)).setCell (p := ⟨w.heap.size + 1, 1, none⟩) (Nat.le_succ _) (.slice aB s.length cB))
    go_wp2
    refine bodyPost_ret (results_cell_row rfl _ _ (w.heap.size + 1) 120 _ (0, 0) _ rfl HRES1.out Tryz.underlying120 rfl (by kernel_rfl)) rfl ?_
    exact ⟨_, _, rfl, HO1.out, HO2.out, HNA.out, HNB.out, HBF.out⟩
end Go.Proofs.YtkhdjjcflbdegaaGreatDoor
end

section
/- Package elim: (equation).add. -/
namespace Go.Proofs.YtkhdjjcflbdegaaGreatDoor
open Go.RowKit Go.Extern.Stop Go.Stop Go.Extern

theorem eq2_laid (w : World) (r s r2 s2 : Value) : ∃ wz, wz = (w.alloc (.cells #[r, s] 120)).alloc (.cells #[r2, s2] 120) ∧ Below w.heap.size w wz ∧ wz.heap.size = w.heap.size + 2 ∧
    wz.cell? ⟨w.heap.size, 0, none⟩ = some r ∧ wz.cell? ⟨w.heap.size, 1, none⟩ = some s ∧ wz.cell? ⟨w.heap.size + 1, 0, none⟩ = some r2 ∧ wz.cell? ⟨w.heap.size + 1, 1, none⟩ = some s2 := by
  have h1 : (w.alloc (.cells #[r, s] 120)).heap[w.heap.size]? = some (.cells #[r, s] 120 (0, 0)) := heap_alloc_new w _
  have hz : (w.alloc (.cells #[r, s] 120)).heap.size = w.heap.size + 1 := World.size_alloc _ _
  have h2 : ((w.alloc (.cells #[r, s] 120)).alloc (.cells #[r2, s2] 120)).heap[w.heap.size]? = some (.cells #[r, s] 120 (0, 0)) := by
    rw [Below.heap_alloc _ _ _ (by omega)]; exact h1
  have h3 := heap_alloc_new (w.alloc (.cells #[r, s] 120)) (.cells #[r2, s2] 120)
  rw [hz] at h3
  exact ⟨_, rfl, ((Below.refl _ _).alloc (Nat.le_refl _) _).alloc (by omega) _, by rw [World.size_alloc, hz], cell_of_heap h2 rfl, cell_of_heap h2 rfl, cell_of_heap h3 rfl, cell_of_heap h3 rfl⟩

theorem own_block_ne {w : World} {e e' : TypeId} {g g' n n' c c' B B' : Nat} {xs xs' : List Value} (h : w.ownsRow B e 1 (.slice (some ⟨g, 0, none⟩) n c) n xs) (h' : w.ownsRow B' e' 1 (.slice (some ⟨g', 0, none⟩) n' c') n' xs') (hne : e ≠ e') : g ≠ g' := by
  rintro rfl
  rcases h.2 with ⟨h1, _⟩ | ⟨b, cap, cur, h1, h2, h3, _⟩
  · cases h1
  · rcases h'.2 with ⟨k1, _⟩ | ⟨b', cap', cur', k1, k2, k3, _⟩
    · cases k1
    · have e1 : g = b := by simpa [Value.ownBlock] using congrArg Value.ownBlock h1
      have e2 : g = b' := by simpa [Value.ownBlock] using congrArg Value.ownBlock k1
      subst e1
      subst e2
      rw [h3] at k3
      simp at k3
      exact hne k3.2

theorem ListAt.wordsN {w : World} {v : Value} {l : List Nat} (h : ListAt wordV w v l) (n : Nat) (hn : l.length = n) :
    ∃ a cap, v = .slice a n cap ∧ n ≤ cap ∧ cap ≤ maxLen ∧ (0 < n → ∃ b off, a = some ⟨b, off, none⟩ ∧ ∀ j, j < n → w.cell? ⟨b, off + j, none⟩ = some (.int .u64 ((l.getD j 0 : Nat) : Int))) := by
  subst hn
  obtain ⟨a, cap, rfl, hc, hm, h⟩ := h
  refine ⟨a, cap, rfl, hc, hm, fun hp => ?_⟩
  obtain ⟨b, off, rfl, hcell⟩ := h hp
  refine ⟨b, off, rfl, fun j hj => ?_⟩
  rw [hcell j hj, List.getD_eq_getElem?_getD, List.getElem?_eq_getElem hj]
  rfl

set_option maxRecDepth 1000000 in
set_option maxHeartbeats 4000000 in
theorem eqAdd_any {w0 w : World} (g1 c1 g2 c2 K S : Nat) (r s r2 s2 : List Nat) (v1 v2 : Value) (hb : Below w0.heap.size w0 w)
    (hr : w.ownsRow w0.heap.size 163 1 (.slice (some ⟨g1, 0, none⟩) K c1) K (r.map wordV)) (hs : w.ownsRow w0.heap.size 5 1 (.slice (some ⟨g2, 0, none⟩) S c2) S (s.map byteV))
    (h1 : ListAt wordV w0 v1 r2) (h2 : ListAt byteV w0 v2 s2) (hrl : r.length = K) (hsl : s.length = S) (hr2l : r2.length = K) (hs2l : s2.length = S) (hrw : Word r) (hsw : Octets s) (hr2w : Word r2) (hs2w : Octets s2) (hK : K ≤ 100000) (hS : S ≤ 100000) :
    Calls Tryz.prog 104 #[.agg #[.slice (some ⟨g1, 0, none⟩) K c1, .slice (some ⟨g2, 0, none⟩) S c2], .agg #[v1, v2]] w fun e w' => e = .returned (.tuple #[]) ∧
      w'.ownsRow w0.heap.size 163 1 (.slice (some ⟨g1, 0, none⟩) K c1) K ((xorW r r2).map wordV) ∧ w'.ownsRow w0.heap.size 5 1 (.slice (some ⟨g2, 0, none⟩) S c2) S ((xorW s s2).map byteV) ∧ Below w0.heap.size w0 w' ∧ (∀ k, k < w.heap.size → k ≠ g1 → k ≠ g2 → w'.heap[k]? = w.heap[k]?) := by
  have HNE := Lib.hid (own_block_ne hr hs (by decide))
  have hl1 := hr.lt g1 rfl
  have hl2 := hs.lt g2 rfl
  have HGE1 : Hid (w.heap.size ≠ g1) := Lib.hid (by omega)
  have HGE2 : Hid (w.heap.size ≠ g2) := Lib.hid (by omega)
  have HGF1 : Hid (w.heap.size + 1 ≠ g1) := Lib.hid (by omega)
  obtain ⟨wz, hwz, hbz, hzs, he0, he1, hf0, hf1⟩ := eq2_laid w (.slice (some ⟨g1, 0, none⟩) K c1) (.slice (some ⟨g2, 0, none⟩) S c2) v1 v2
  obtain ⟨a1, cp1, rfl, hcp1, -, hcell1⟩ := h1.wordsN K hr2l
  obtain ⟨a2, cp2, rfl, hcp2, -, hcell2⟩ := h2.bytes S hs2l
  have HBA := Lib.hid (hb.trans (hbz.mono hb.size))
  have HC1 : Hid (0 < K → ∃ b off, a1 = some ⟨b, off, none⟩ ∧ ∀ j, j < K → wz.cell? ⟨b, off + j, none⟩ = some (.int .u64 ((r2.getD j 0 : Nat) : Int)) ∧ b ≠ g1) := Lib.hid fun hp => by
    obtain ⟨b, off, e, hc⟩ := hcell1 (by omega)
    refine ⟨b, off, e, fun j hj => ?_⟩
    have hx := hc j (by omega)
    have hlt : b < w0.heap.size := World.block_lt_of_cell? w0 _ hx
    refine ⟨((hb.trans (hbz.mono hb.size)).cell (p := ⟨b, off + j, none⟩) hlt).trans hx, ?_⟩
    omega
  have HC2 : Hid (0 < S → ∃ b off, a2 = some ⟨b, off, none⟩ ∧ ∀ j, j < S → b ≠ g1 ∧ b ≠ g2 ∧ wz.cell? ⟨b, off + j, none⟩ = some (.int .u8 ((s2.getD j 0 : Nat) : Int))) := Lib.hid fun hp => by
    obtain ⟨b, off, e, hc⟩ := hcell2 (by omega)
    refine ⟨b, off, e, fun j hj => ?_⟩
    have hx := hc j (by omega)
    have hlt : b < w0.heap.size := World.block_lt_of_cell? w0 _ hx
    exact ⟨by omega, by omega, ((hb.trans (hbz.mono hb.size)).cell (p := ⟨b, off + j, none⟩) hlt).trans hx⟩
  have HOR := Lib.hid (owns_kept hr hbz)
  have HOS := Lib.hid (owns_kept hs hbz)
  have HE0 := Lib.hid he0
  have HE1Z := Lib.hid he1
  have HF1Z := Lib.hid hf1
  have HRL := Lib.hid hrl
  have HR2L := Lib.hid hr2l
  have HRW := Lib.hid hrw
  have HR2W := Lib.hid hr2w
  have HSL := Lib.hid hsl
  have HS2L := Lib.hid hs2l
  have HSW := Lib.hid hsw
  have HS2W := Lib.hid hs2w
  have HWZ := Lib.hid hwz
  have HBZ := Lib.hid hbz
  clear hwz hbz hb hr hs h1 hcell1 hcell2 hrl hr2l hrw hr2w hsl hs2l hsw hs2w hl1 hl2 h2
  go_enter Tryz.func104, Tryz.ntmps104
  go_wp2_with fail
  rw [← HWZ.out]
  go_wp2

  go_loopw [11] (fun q wr => ∃ k : Nat, k ≤ K ∧ q = .int .i64 k ∧ (∃ zs : List Nat, zs.length = K ∧ Word zs ∧ (∀ j, j < K → zs.getD j 0 = if j < k then r.getD j 0 ^^^ r2.getD j 0 else r.getD j 0) ∧ wr.ownsRow w0.heap.size 163 1 (.slice (some ⟨g1, 0, none⟩) K c1) K (zs.map wordV)) ∧ wz.grownBy wr (some g1)) (fun q _ => K - (intOf q).toNat)
  case atStart => exact ⟨0, Nat.zero_le _, rfl, ⟨r, HRL.out, HRW.out, fun j _ => by simp, HOR.out⟩, World.grownBy.refl _ _⟩
  case round =>
    obtain ⟨k, hk, rfl, ⟨zs, hzl, hzw, hzv, hown⟩, hgr⟩ := hrel
    by_cases hlt : k < K
    · obtain ⟨b, off, rfl, hcc⟩ := HC1.out (by omega)
      have hb1 : wr.cell? ⟨w.heap.size, 0, none⟩ = some (.slice (some ⟨g1, 0, none⟩) K c1) := hgr.cell HE0.out (by intro e; exact HGE1.out (by simpa using e))
      have hy1 : wr.cell? ⟨b, off + k, none⟩ = some (.int .u64 ((r2.getD k 0 : Nat) : Int)) := hgr.cell (hcc k hlt).1 (by intro e; exact (hcc k hlt).2 (by simpa using e))
      have hx1 : wr.cell? ⟨g1, k, none⟩ = some (.int .u64 ((r.getD k 0 : Nat) : Int)) := by
        rw [hown.cellAt k (by omega)]
        have e := hzv k hlt
        rw [if_neg (by omega)] at e
        have : k < zs.length := by omega
        simp only [List.getD_eq_getElem?_getD, List.getElem?_eq_getElem this, Option.getD_some] at e
        simp [this, wordV, e]
      have hf1 : wr.frozen? ⟨g1, k, none⟩ = false := hown.frozenAt k
      have hxlt := HRW.out.getD k
      have hylt := HR2W.out.getD k
      have hlt3 : r.getD k 0 ^^^ r2.getD k 0 < 18446744073709551616 := Nat.xor_lt_two_pow (n := 64) hxlt hylt
      have hbx := bits_xor_u64_nat (r.getD k 0) (r2.getD k 0) hxlt hylt
      have HZ1 : Hid (∀ u, r.getD k 0 ^^^ r2.getD k 0 = u → ∀ j, j < K → (zs.set k u).getD j 0 = if j < k + 1 then r.getD j 0 ^^^ r2.getD j 0 else r.getD j 0) := Lib.hid fun u e j hj => by
        rw [getD_set _ _ _ _ _ (by omega)]
        by_cases e1 : j = k
        · subst e1; rw [if_pos rfl, if_pos (by omega), e]
        · rw [if_neg e1, hzv j hj]
          by_cases e2 : j < k
          · rw [if_pos e2, if_pos (by omega)]
          · rw [if_neg e2, if_neg (by omega)]
      have HOW := Lib.hid hown
      have HG := Lib.hid hgr
      have HZL := Lib.hid hzl
      have HZW := Lib.hid hzw
      have HL3 := Lib.hid hlt3
      clear hown hgr hzl hzw hzv hxlt hylt hlt3 hcc
      generalize r.getD k 0 = X at *
      generalize r2.getD k 0 = Y at *
      go_wp2
      go_roundw
      case rel => exact ⟨k + 1, by omega, by go_num, ⟨zs.set k (X ^^^ Y), by simpa using HZL.out, HZW.out.set _ _ HL3.out, HZ1.out _ rfl, by rw [List.map_set]; exact (HOW.out.stored k (.int .u64 ((X ^^^ Y : Nat) : Int))).1⟩, grown_trans HG.out (HOW.out.stored k (.int .u64 ((X ^^^ Y : Nat) : Int))).2⟩
      case measure => simp [intOf]; omega
    · have hk' : k = K := by omega
      have HV : Hid (zs = xorW r r2) := Lib.hid (by
        have hxy : r.length = r2.length := by rw [HRL.out, HR2L.out]
        apply ext_getD (by rw [xorW_length hxy, hzl, HRL.out])
        intro j hj
        have e := hzv j (by omega)
        rw [if_pos (by omega), ← xorW_getD hxy] at e
        exact e)
      have HOR2 := Lib.hid hown
      rw [HV.out] at HOR2
      have HGR1 := Lib.hid hgr
      clear hown hgr hzv hzl hzw HV
      obtain ⟨wy, hwy⟩ : ∃ wy, wy = wr := ⟨_, rfl⟩
      subst hwy
      have HE1 : Hid (wy.cell? ⟨w.heap.size, 1, none⟩ = some (.slice (some ⟨g2, 0, none⟩) S c2)) := Lib.hid (HGR1.out.cell HE1Z.out (by intro e; exact HGE1.out (by simpa using e)))
      have hf1y : wy.cell? ⟨w.heap.size + 1, 1, none⟩ = some (.slice a2 S cp2) := HGR1.out.cell HF1Z.out (by intro e; exact HGF1.out (by simpa using e))
      have HOS2 := Lib.hid (HOS.out.kept HGR1.out (.inr (by intro e; exact HNE.out (by simpa [Value.ownBlock] using e.symm))))
      have HC2 : Hid (0 < S → ∃ b off, a2 = some ⟨b, off, none⟩ ∧ ∀ j, j < S → wy.cell? ⟨b, off + j, none⟩ = some (.int .u8 ((s2.getD j 0 : Nat) : Int)) ∧ b ≠ g2) := Lib.hid fun hp => by
        obtain ⟨b, off, e, hc⟩ := HC2.out hp
        refine ⟨b, off, e, fun j hj => ?_⟩
        obtain ⟨q1, q2, q3⟩ := hc j hj
        exact ⟨HGR1.out.cell q3 (by intro e; exact q1 (by simpa using e)), q2⟩
      clear HC1
      go_wp2

      go_loopw [28] (fun q wr => ∃ k : Nat, k ≤ S ∧ q = .int .i64 k ∧ (∃ zs : List Nat, zs.length = S ∧ Octets zs ∧ (∀ j, j < S → zs.getD j 0 = if j < k then s.getD j 0 ^^^ s2.getD j 0 else s.getD j 0) ∧ wr.ownsRow w0.heap.size 5 1 (.slice (some ⟨g2, 0, none⟩) S c2) S (zs.map byteV)) ∧ wy.grownBy wr (some g2)) (fun q _ => S - (intOf q).toNat)
      case atStart => exact ⟨0, Nat.zero_le _, rfl, ⟨s, HSL.out, HSW.out, fun j _ => by simp, HOS2.out⟩, World.grownBy.refl _ _⟩
      case round =>
        obtain ⟨k, hk, rfl, ⟨zs, hzl, hzw, hzv, hown⟩, hgr⟩ := hrel
        by_cases hlt : k < S
        · obtain ⟨b, off, rfl, hcc⟩ := HC2.out (by omega)
          have hb1 : wr.cell? ⟨w.heap.size, 1, none⟩ = some (.slice (some ⟨g2, 0, none⟩) S c2) := hgr.cell HE1.out (by intro e; exact HGE2.out (by simpa using e))
          have hy1 : wr.cell? ⟨b, off + k, none⟩ = some (.int .u8 ((s2.getD k 0 : Nat) : Int)) := hgr.cell (hcc k hlt).1 (by intro e; exact (hcc k hlt).2 (by simpa using e))
          have hx1 : wr.cell? ⟨g2, k, none⟩ = some (.int .u8 ((s.getD k 0 : Nat) : Int)) := by
            rw [hown.cellAt k (by omega)]
            have e := hzv k hlt
            rw [if_neg (by omega)] at e
            have : k < zs.length := by omega
            simp only [List.getD_eq_getElem?_getD, List.getElem?_eq_getElem this, Option.getD_some] at e
            simp [this, byteV, e]
          have hf1 : wr.frozen? ⟨g2, k, none⟩ = false := hown.frozenAt k
          have hxlt := HSW.out.getD k
          have hylt := HS2W.out.getD k
          have hlt3 : s.getD k 0 ^^^ s2.getD k 0 < 256 := Nat.xor_lt_two_pow (n := 8) hxlt hylt
          have hbx := bits_xor_u8_nat (s.getD k 0) (s2.getD k 0) hxlt hylt
          have HZ1 : Hid (∀ u, s.getD k 0 ^^^ s2.getD k 0 = u → ∀ j, j < S → (zs.set k u).getD j 0 = if j < k + 1 then s.getD j 0 ^^^ s2.getD j 0 else s.getD j 0) := Lib.hid fun u e j hj => by
            rw [getD_set _ _ _ _ _ (by omega)]
            by_cases e1 : j = k
            · subst e1; rw [if_pos rfl, if_pos (by omega), e]
            · rw [if_neg e1, hzv j hj]
              by_cases e2 : j < k
              · rw [if_pos e2, if_pos (by omega)]
              · rw [if_neg e2, if_neg (by omega)]
          have HOW := Lib.hid hown
          have HG := Lib.hid hgr
          have HZL := Lib.hid hzl
          have HZW := Lib.hid hzw
          have HL3 := Lib.hid hlt3
          clear hown hgr hzl hzw hzv hxlt hylt hlt3 hcc
          generalize s.getD k 0 = X at *
          generalize s2.getD k 0 = Y at *
          go_wp2
          go_roundw
          case rel => exact ⟨k + 1, by omega, by go_num, ⟨zs.set k (X ^^^ Y), by simpa using HZL.out, HZW.out.set _ _ HL3.out, HZ1.out _ rfl, by rw [List.map_set]; exact (HOW.out.stored k (.int .u8 ((X ^^^ Y : Nat) : Int))).1⟩, grown_trans HG.out (HOW.out.stored k (.int .u8 ((X ^^^ Y : Nat) : Int))).2⟩
          case measure => simp [intOf]; omega
        · have hk' : k = S := by omega
          have HV : Hid (zs = xorW s s2) := Lib.hid (by
            have hxy : s.length = s2.length := by rw [HSL.out, HS2L.out]
            apply ext_getD (by rw [xorW_length hxy, hzl, HSL.out])
            intro j hj
            have e := hzv j (by omega)
            rw [if_pos (by omega), ← xorW_getD hxy] at e
            exact e)
          have HOS3 := Lib.hid hown
          rw [HV.out] at HOS3
          have HGR2 := Lib.hid hgr
          clear hown hgr hzv hzl hzw HV

          have HORF := Lib.hid (HOR2.out.kept HGR2.out (.inr (by intro e; exact HNE.out (by simpa [Value.ownBlock] using e))))
          have HBF := Lib.hid ((HBA.out.grown HGR1.out HBA.out.size (fun k e => by cases e; exact (HOR2.out.lt g1 rfl).1)).grown HGR2.out (Nat.le_trans HBA.out.size HGR1.out.size) (fun k e => by cases e; exact (HOS3.out.lt g2 rfl).1))
          go_wp2
          go_end0
          exact ⟨rfl, HORF.out, HOS3.out, HBF.out, fun k hk n1 n2 => ((HGR2.out.block k (by have := HBZ.out.size; have := HGR1.out.size; omega) (by simpa using n2)).trans (HGR1.out.block k (by have := HBZ.out.size; omega) (by simpa using n1))).trans (HBZ.out.block k hk)⟩
end Go.Proofs.YtkhdjjcflbdegaaGreatDoor
end
