import Derived.Test.YticoaioeeppapaaGreatDoorG08
import Derived.Test.YticoaioeeppapaaGreatDoorG12
import Derived.Test.YticoaioeeppapaaGreatDoorG06
import Derived.Test.YticoaioeeppapaaGreatDoorG10
import Derived.WalkSpells
import Derived.WalkLawsBesides
import Derived.Laws.CopyOwn

section
/- Package symbol: wrong, added. -/







namespace Go.Proofs.YticoaioeeppapaaGreatDoor

open Go.RowKit Go.Extern.Stop Go.Stop Go.Extern

theorem ListAt.bytes {w : World} {v : Value} {l : List Nat} (h : ListAt byteV w v l) (n : Nat) (hn : l.length = n) :
    ∃ a cap, v = .slice a n cap ∧ n ≤ cap ∧ cap ≤ maxLen ∧ (0 < n → ∃ b off, a = some ⟨b, off, none⟩ ∧ ∀ j, j < n → w.cell? ⟨b, off + j, none⟩ = some (.int .u8 ((l.getD j 0 : Nat) : Int))) := by
  subst hn
  obtain ⟨a, cap, rfl, hc, hm, h⟩ := h
  refine ⟨a, cap, rfl, hc, hm, fun hp => ?_⟩
  obtain ⟨b, off, rfl, hcell⟩ := h hp
  refine ⟨b, off, rfl, fun j hj => ?_⟩
  rw [hcell j hj, List.getD_eq_getElem?_getD, List.getElem?_eq_getElem hj]
  rfl

theorem take_succ_row {L : List (List Nat)} {k : Nat} (h : k < L.length) : L.take (k + 1) = L.take k ++ [L.getD k []] := by
  rw [List.take_add_one, List.getD_eq_getElem?_getD, List.getElem?_eq_getElem h]; rfl

set_option maxRecDepth 1000000 in
theorem wrong_any {w : World} (v : Value) (L : List (List Nat)) (n : Int) (h : MatAt byteV w v L) (hn : I64 n) :
    Calls Tryz.prog 111 #[v, .int .i64 n] w fun e w' => e = .returned (.int .i64 (checkS L n)) ∧ w = w' := by
  have hlen := h.len
  obtain ⟨a, cap, rfl, hcap, hcm, hcell⟩ := h.opens
  clear h
  obtain ⟨hn0, hn1⟩ := hn
  by_cases h0 : n < 1
  · have HR : Hid (checkS L n = 1) := Lib.hid (by unfold checkS; rw [if_pos (.inl h0)])
    clear hcell
    go_enter Tryz.func111, Tryz.ntmps111
    go_wp2
    go_ret
    exact ⟨by rw [HR.out]; rfl, rfl⟩
  · have h0' : 1 ≤ n := by omega
    by_cases h1 : 64 < n
    · have HR : Hid (checkS L n = 1) := Lib.hid (by unfold checkS; rw [if_pos (.inr h1)])
      clear hcell h0
      go_enter Tryz.func111, Tryz.ntmps111
      go_wp2
      go_ret
      exact ⟨by rw [HR.out]; rfl, rfl⟩
    · have h1' : n ≤ 64 := by omega
      have HR : Hid (∀ b, L.all (fun r => decide ((r.length : Int) = n)) = b → checkS L n = if b then 0 else 2) := Lib.hid fun b e => by
        unfold checkS; rw [if_neg (by omega), e]
      have HC := Lib.hid hcell
      clear hcell h0 h1
      go_enter Tryz.func111, Tryz.ntmps111
      go_wp2
      go_loopw [15] (fun i wr => ∃ k : Nat, k ≤ L.length ∧ i = .int .i64 k ∧ (∀ j, j < k → ((L.getD j []).length : Int) = n) ∧ w = wr) (fun i _ => L.length - (intOf i).toNat)
      case atStart => exact ⟨0, Nat.zero_le _, rfl, fun j hj => by omega, rfl⟩
      case round =>
        obtain ⟨k, hk, rfl, hz, rfl⟩ := hrel
        by_cases hlt : k < L.length
        · obtain ⟨b, off, rfl, hcc⟩ := HC.out (by omega)
          obtain ⟨x, hx, hlx⟩ := hcc k hlt
          have hx' : w.cell? ⟨b, off + k, none⟩ = some x := hx
          have HF : Hid (((L.getD k []).length : Int) ≠ n → L.all (fun r => decide ((r.length : Int) = n)) = false) := Lib.hid fun h => by
            rw [List.all_eq_false]; exact ⟨_, getD_mem_row hlt, by simpa using h⟩
          have HT : Hid (((L.getD k []).length : Int) = n → ∀ j, j < k + 1 → ((L.getD j []).length : Int) = n) := Lib.hid fun h j hj => by
            by_cases e : j = k
            · rw [e]; exact h
            · exact hz j (by omega)
          have hrl := hlx.len
          obtain ⟨ra, rc, rfl, -, -, -⟩ := hlx
          clear hcc hx hz
          generalize (L.getD k []).length = m at *
          by_cases he : (m : Int) = n
          · have hb2 : ((m : Int) != n) = false := by simpa using he
            have hb1 : ((m : Int) == n) = true := by simpa using he
            have HT' := Lib.hid (HT.out he)
            clear HF HT he
            go_wp2
            go_roundw
            case rel => exact ⟨k + 1, by omega, by go_num, HT'.out, trivial⟩
            case measure => simp [intOf]; omega
          · have hb2 : ((m : Int) != n) = true := by simpa using he
            have hb1 : ((m : Int) == n) = false := by simpa using he
            have HF' := Lib.hid (HF.out he)
            clear HF HT he
            go_wp2
            go_ret
            exact ⟨by rw [HR.out _ HF'.out]; rfl, rfl⟩
        · have hk' : k = L.length := by omega
          have HA : Hid (L.all (fun r => decide ((r.length : Int) = n)) = true) := Lib.hid (by
            rw [List.all_eq_true]
            intro r hr
            obtain ⟨j, hj, rfl⟩ := List.getElem_of_mem hr
            have := hz j (by omega)
            simp only [List.getD_eq_getElem?_getD, List.getElem?_eq_getElem hj, Option.getD_some] at this
            exact decide_eq_true this)
          clear hz
          go_wp2
          go_ret
          exact ⟨by rw [HR.out _ HA.out]; rfl, rfl⟩

set_option maxRecDepth 1000000 in
set_option maxHeartbeats 4000000 in
/-- The sum of symbols of n bytes, in new memory. -/
theorem added_any {w : World} (v : Value) (L : List (List Nat)) (n : Nat) (h : MatAt byteV w v L) (hl : ∀ r ∈ L, r.length = n) (hw : ∀ r ∈ L, Octets r) (hn : n ≤ 281474976710656) :
    Calls Tryz.prog 113 #[.int .i64 (n : Int), v] w fun e w' => ∃ v', e = .returned v' ∧ w'.ownsRow w.heap.size 5 1 v' n ((sumS n L).map byteV) ∧ Below w.heap.size w w' := by
  obtain ⟨i0, hi, hz0, hz1, hz2⟩ := info_parts info_u8
  have hlen := h.len
  obtain ⟨a, cap, rfl, hcap, hcm, hcell⟩ := h.opens
  have HC := Lib.hid hcell
  have HL := Lib.hid hl
  have HW := Lib.hid hw
  clear h hcell hl hw
  go_enter Tryz.func113, Tryz.ntmps113
  go_wp2_with (at_make; refine wpList_make_full _ rfl _ _ 52 rfl w.heap.size 5 i0 (.int .u8 0) 1 Tryz.underlying52 hi hz0 hz1 .i64 .i64 _ _ n rfl rfl rfl rfl (by rw [hz2]; omega) (by unfold maxLen; omega) (Nat.le_refl _) ?_; intro w0 hown0 hgrow0; have hb0 := Lib.hid ((Below.refl w.heap.size w).grown hgrow0 (Nat.le_refl _) (fun k hk => by cases hk)); have ho0 := Lib.hid hown0; clear hown0 hgrow0)
  go_loopw [14] (fun i wr => ∃ k : Nat, k ≤ L.length ∧ i = .int .i64 k ∧ wr.ownsRow w.heap.size 5 1 (.slice (some ⟨w.heap.size, 0, none⟩) n n) n ((sumS n (L.take k)).map byteV) ∧ Below w.heap.size w wr) (fun i _ => L.length - (intOf i).toNat)
  case atStart => exact ⟨0, Nat.zero_le _, rfl, by rw [List.take_zero, sumS_nil, List.map_replicate]; have h := ho0.out; rw [Nat.mul_one] at h; exact toList_madeCells_one (.int .u8 0) n ▸ h, hb0.out⟩
  case round =>
    clear hb0 ho0
    obtain ⟨k, hk, rfl, hown, hbel⟩ := hrel
    have HO := Lib.hid hown
    have HB := Lib.hid hbel
    have hsz := hbel.size
    by_cases hlt : k < L.length
    · obtain ⟨b, off, rfl, hcc⟩ := HC.out (by omega)
      obtain ⟨x, hx, hlx⟩ := hcc k hlt
      have hx1 : wr.cell? ⟨b, off + k, none⟩ = some x := (hbel.cell (p := ⟨b, off + k, none⟩) (World.block_lt_of_cell? w _ hx)).trans hx
      have hmem := getD_mem_row hlt
      have hrl := HL.out _ hmem
      have HRW := Lib.hid (HW.out _ hmem)
      have HS : Hid (sumS n (L.take (k + 1)) = xorW (sumS n (L.take k)) (L.getD k [])) := Lib.hid (by rw [take_succ_row hlt, sumS_snoc hrl])
      have HSO := Lib.hid (sumS_octets (L := L.take k) (fun r hr => HW.out r (List.mem_of_mem_take hr)) n)
      have HSL := Lib.hid (sumS_length n (L.take k))
      have HRL := Lib.hid hrl
      obtain ⟨ra, rc, rfl, hrc, hrm, hrcell⟩ := hlx.bytes n hrl
      have HRC := Lib.hid hrcell
      clear hcc hx hlx hmem hrl hown hrcell
      have HZ : Hid (k = 0 → sumS n (L.take k) = List.replicate n 0) := Lib.hid fun e => by rw [e, List.take_zero, sumS_nil]
      generalize L.getD k [] = r at *
      generalize hS1 : sumS n (L.take (k + 1)) = S1 at HS
      have HS1 := Lib.hid hS1
      clear hS1
      generalize sumS n (L.take k) = S0 at *
      by_cases h0 : k = 0
      · have hk0 : ((k : Int) == 0) = true := by simp [h0]
        obtain ⟨hbg, hcl, hheap⟩ := own_full HO.out
        have HH := Lib.hid hheap
        have HCL := Lib.hid hcl
        have HX : Hid (S1 = r) := Lib.hid (by
          have hle : S0.length = r.length := by rw [HSL.out, HRL.out]
          rw [HS.out]
          apply ext_getD (by rw [xorW_length hle, hle])
          intro j hj
          rw [xorW_getD hle, HZ.out h0]
          simp [List.getD_eq_getElem?_getD, List.getElem?_replicate]
          split <;> simp)
        clear hheap hcl HZ h0
        go_wp2_with ((with_reducible show wpList _ _ _ (⟨some 23, _, _, _, _, _⟩ :: _) _ _); refine wpList_copy_splice rfl (.tmp 21) (.tmp 22) 52 52 rfl 5 Tryz.underlying52 (by rw [hi]; exact congrArg some hz1) (some ⟨w.heap.size, 0, none⟩) ra n n n rc rfl rfl w.heap.size 0 (S0.map byteV) 5 HH.out (r.map byteV) (by rw [List.length_map, HRL.out]; simp) (fun hp => ⟨rfl, by
          rw [List.length_map, HRL.out] at hp
          obtain ⟨b2, off2, e2, h2⟩ := HRC.out hp
          refine ⟨⟨b2, off2, none⟩, e2, fun j u hu => ?_⟩
          have hj : j < r.length := by have := (List.getElem?_eq_some_iff.1 hu).1; simpa using this
          have h3 := h2 j (by rw [← HRL.out]; exact hj)
          rw [Go.WideShapes.add_plain, HB.out.cell (p := ⟨b2, off2 + j, none⟩) (World.block_lt_of_cell? w _ h3), h3]
          simpa [hj, byteV, List.getD_eq_getElem?_getD] using hu⟩) (by have h1 := HRL.out; have h2 := HSL.out; simp; omega) (fun u hu => by obtain ⟨y, _, rfl⟩ := List.mem_map.1 hu; rfl) w.heap.size w HB.out (Nat.le_refl _) ?_; intro w2 hg2 hb2; have HG2 := hg2; have HB2 := Lib.hid hb2; clear hg2 hb2)
        go_wp2
        go_roundw
        case rel => exact ⟨k + 1, by omega, by go_num, by
          have h := HG2.out
          rw [splice_all (by rw [List.length_map, List.length_map, HRL.out, HSL.out])] at h
          rw [HS1.out, HX.out]
          exact own_of_heap (Nat.le_refl _) (by rw [List.length_map, HRL.out]) (by unfold maxLen; omega) h, HB2.out⟩
        case measure => simp [intOf]; omega
      · have hk0 : ((k : Int) == 0) = false := by simp [h0]
        clear HZ h0
        go_wp2
        go_loopw [26] (fun j wy => ∃ t : Nat, t ≤ n ∧ j = .int .i64 t ∧ (∃ zs : List Nat, zs.length = n ∧ Octets zs ∧ (∀ j, j < n → zs.getD j 0 = if j < t then S0.getD j 0 ^^^ r.getD j 0 else S0.getD j 0) ∧ wy.ownsRow w.heap.size 5 1 (.slice (some ⟨w.heap.size, 0, none⟩) n n) n (zs.map byteV)) ∧ Below w.heap.size w wy) (fun j _ => n - (intOf j).toNat)
        case atStart => exact ⟨0, Nat.zero_le _, rfl, ⟨S0, HSL.out, HSO.out, fun j _ => by simp, HO.out⟩, HB.out⟩
        case round =>
          clear hx1 hbel hsz HB HO
          obtain ⟨t, ht, rfl, ⟨zs, hzl, hzo, hzv, hown⟩, hbel⟩ := hrel
          have hsz := hbel.size
          by_cases hlt2 : t < n
          · obtain ⟨b2, off2, rfl, h2⟩ := HRC.out (by omega)
            have hr0 := h2 t hlt2
            have hy1 := (hbel.cell (p := ⟨b2, off2 + t, none⟩) (World.block_lt_of_cell? w _ hr0)).trans hr0
            have hy2 : wr.cell? ⟨w.heap.size, t, none⟩ = some (.int .u8 ((S0.getD t 0 : Nat) : Int)) := by
              rw [hown.cellAt t (by omega)]
              have e := hzv t hlt2
              rw [if_neg (by omega)] at e
              have : t < zs.length := by omega
              simp only [List.getD_eq_getElem?_getD, List.getElem?_eq_getElem this, Option.getD_some] at e
              simp [this, byteV, e]
            have hf1 : wr.frozen? ⟨w.heap.size, t, none⟩ = false := hown.frozenAt t
            have hxlt := HSO.out.getD t
            have hylt := HRW.out.getD t
            have hlt3 : S0.getD t 0 ^^^ r.getD t 0 < 256 := Nat.xor_lt_two_pow (n := 8) hxlt hylt
            have hbx := bits_xor_u8_nat (S0.getD t 0) (r.getD t 0) hxlt hylt
            have HZ1 : Hid (∀ u, S0.getD t 0 ^^^ r.getD t 0 = u → ∀ j, j < n → (zs.set t u).getD j 0 = if j < t + 1 then S0.getD j 0 ^^^ r.getD j 0 else S0.getD j 0) := Lib.hid fun u e j hj => by
              rw [getD_set _ _ _ _ _ (by omega)]
              by_cases e1 : j = t
              · subst e1; rw [if_pos rfl, if_pos (by omega), e]
              · rw [if_neg e1, hzv j hj]
                by_cases e2 : j < t
                · rw [if_pos e2, if_pos (by omega)]
                · rw [if_neg e2, if_neg (by omega)]
            have HO := Lib.hid hown
            have HB := Lib.hid hbel
            have HZL := Lib.hid hzl
            have HZO := Lib.hid hzo
            have HL3 := Lib.hid hlt3
            clear h2 hr0 hown hbel hzl hzo hzv hxlt hylt hlt3
            generalize S0.getD t 0 = X at *
            generalize r.getD t 0 = Y at *
            go_wp2
            go_roundw
            case rel => exact ⟨t + 1, by omega, by go_num, ⟨zs.set t (X ^^^ Y), by simpa using HZL.out, HZO.out.set _ _ HL3.out, HZ1.out _ rfl, by rw [List.map_set]; exact (HO.out.stored t (.int .u8 ((X ^^^ Y : Nat) : Int))).1⟩, HB.out.setCell (p := ⟨w.heap.size, t, none⟩) (Nat.le_refl _) _⟩
            case measure => simp [intOf]; omega
          · have ht' : t = n := by omega
            have HV : Hid (zs = S1) := Lib.hid (by
              have hle : S0.length = r.length := by rw [HSL.out, HRL.out]
              rw [HS.out]
              apply ext_getD (by rw [hzl, xorW_length hle, HSL.out])
              intro j hj
              have e := hzv j (by omega)
              rw [if_pos (by omega), ← xorW_getD hle] at e
              exact e)
            have HO := Lib.hid hown
            have HB := Lib.hid hbel
            clear hown hbel hzv hzl hzo
            go_wp2
            go_roundw
            case rel => exact ⟨k + 1, by omega, by go_num, by rw [HS1.out, ← HV.out]; exact HO.out, HB.out⟩
            case measure => simp [intOf]; omega
    · have hk' : k = L.length := by omega
      have HE : Hid (L.take k = L) := Lib.hid (by rw [hk', List.take_length])
      rw [HE.out] at HO
      go_wp2
      go_ret
      exact ⟨_, rfl, HO.out, HB.out⟩
end Go.Proofs.YticoaioeeppapaaGreatDoor
end

section
/- Package symbol: Sum, Xor, Zero. -/
namespace Go.Proofs.YticoaioeeppapaaGreatDoor
open Go.RowKit Go.Extern.Stop Go.Stop Go.Extern

abbrev nameSum : ByteArray := ⟨#[115, 121, 109, 98, 111, 108, 46, 83, 117, 109]⟩
abbrev nameXor : ByteArray := ⟨#[115, 121, 109, 98, 111, 108, 46, 88, 111, 114]⟩
abbrev namePick : ByteArray := ⟨#[115, 121, 109, 98, 111, 108, 46, 80, 105, 99, 107]⟩
abbrev nameSplit : ByteArray := ⟨#[115, 121, 109, 98, 111, 108, 46, 83, 112, 108, 105, 116]⟩

/-! ### Xor -/
theorem MatAt.lit {α : Type} {f : α → Value} {w : World} {vs : List Value} {L : List (List α)} (t : TypeId) (n : Nat) (hn : L.length = n) (hl : vs.length = n) (hm : n ≤ maxLen) (h : ∀ i, ListAt f w (vs.getD i nilS) (L.getD i [])) :
    MatAt f (w.alloc (.cells vs.toArray t)) (.slice (some ⟨w.heap.size, 0, none⟩) n n) L := by
  subst hn
  refine ⟨vs, ⟨_, L.length, by rw [hl], by omega, hm, fun _ => ⟨_, 0, rfl, fun j hj => ?_⟩⟩, hl, fun i => (h i).mono ((Below.refl _ _).alloc (Nat.le_refl _) _)⟩
  rw [Nat.zero_add, World.cell?_alloc_at _ _ _ _ (by simp)]
  simp

theorem pair_mat {w : World} {v1 v2 : Value} {xa xb : List Nat} (h1 : ListAt byteV w v1 xa) (h2 : ListAt byteV w v2 xb) :
    MatAt byteV (w.alloc (.cells #[v1, v2] 52)) (.slice (some ⟨w.heap.size, 0, none⟩) 2 2) [xa, xb] :=
  MatAt.lit (vs := [v1, v2]) 52 2 rfl rfl (by decide) fun i => by
    match i with
    | 0 => exact h1
    | 1 => exact h2
    | i + 2 => exact ListAt.nil _ _

/-! ### Zero -/
def zeroB (l : List Nat) : Bool := l.all fun x => x == 0

theorem nonzero_any {w : World} (x : Nat) (b : Bool) (hb : (x != 0) = b) :
    Calls Tryz.prog 131 #[.int .u8 (x : Int)] w fun e w' => e = .returned (.bool b) ∧ w = w' := by
  have hb2 : ((x : Int) != 0) = b := by
    rw [← hb]
    by_cases h : x = 0
    · subst h; rfl
    · have h1 : (x != 0) = true := by simpa using h
      have h2 : ((x : Int) != 0) = true := by simp; omega
      rw [h1, h2]
  go_enter Tryz.func131, Tryz.ntmps131
  go_wp2
  go_ret
  exact ⟨rfl, rfl⟩

set_option maxRecDepth 1000000 in
theorem IndexFunc_any {w : World} (v : Value) (l : List Nat) (h : ListAt byteV w v l) :
    Calls Tryz.prog 150 #[v, .func (.func 131) #[] #[]] w fun e w' => ∃ i : Int, e = .returned (.int .i64 i) ∧ I64 i ∧ decide (0 ≤ i) = !zeroB l ∧ w = w' := by
  have hlen := h.len
  obtain ⟨a, cap, rfl, hcap, hcm, hcell⟩ := h.bytes l.length rfl
  have HC := Lib.hid hcell
  clear h hcell
  go_enter Tryz.func150, Tryz.ntmps150
  go_wp2
  go_loopw [8] (fun i wr => ∃ k : Nat, k ≤ l.length ∧ i = .int .i64 k ∧ (∀ j, j < k → l.getD j 0 = 0) ∧ w = wr) (fun i _ => l.length - (intOf i).toNat)
  case atStart => exact ⟨0, Nat.zero_le _, rfl, fun j hj => by omega, rfl⟩
  case round =>
    obtain ⟨k, hk, rfl, hz, rfl⟩ := hrel
    by_cases hlt : k < l.length
    · obtain ⟨b, off, rfl, hcc⟩ := HC.out (by omega)
      have hx := hcc k hlt
      have HT : Hid (l.getD k 0 = 0 → ∀ j, j < k + 1 → l.getD j 0 = 0) := Lib.hid fun h j hj => by
        by_cases e : j = k
        · rw [e]; exact h
        · exact hz j (by omega)
      have HF : Hid (l.getD k 0 ≠ 0 → decide ((0 : Int) ≤ (k : Int)) = !zeroB l) := Lib.hid fun h => by
        have : zeroB l = false := by
          unfold zeroB
          rw [List.all_eq_false]
          refine ⟨l[k], List.getElem_mem hlt, ?_⟩
          simpa [List.getD_eq_getElem?_getD, hlt] using h
        rw [this, decide_eq_true (by omega)]; rfl
      clear hcc hz
      generalize l.getD k 0 = x at *
      by_cases hx0 : x = 0
      · have hb : (x != 0) = false := by simp [hx0]
        have HT' := Lib.hid (HT.out hx0)
        clear HF HT hx0
        go_wp2_with fail
        refine (nonzero_any x false hb).mono ?_
        rintro e w1 ⟨rfl, rfl⟩
        go_wp2
        go_roundw
        case rel => exact ⟨k + 1, by omega, by go_num, HT'.out, trivial⟩
        case measure => simp [intOf]; omega
      · have hb : (x != 0) = true := by simpa using hx0
        have HF' := Lib.hid (HF.out hx0)
        clear HF HT hx0
        go_wp2_with fail
        refine (nonzero_any x true hb).mono ?_
        rintro e w1 ⟨rfl, rfl⟩
        go_wp2
        go_ret
        exact ⟨_, rfl, ⟨by omega, by omega⟩, HF'.out, rfl⟩
    · have hk' : k = l.length := by omega
      have HF : Hid (decide ((0 : Int) ≤ -1) = !zeroB l) := Lib.hid (by
        have : zeroB l = true := by
          unfold zeroB
          rw [List.all_eq_true]
          intro x hx
          obtain ⟨j, hj, rfl⟩ := List.getElem_of_mem hx
          have := hz j (by omega)
          simpa [List.getD_eq_getElem?_getD, hj] using this
        rw [this]; rfl)
      clear hz
      go_wp2
      go_ret
      exact ⟨_, rfl, ⟨by decide, by decide⟩, HF.out, rfl⟩

theorem Zero_any {w : World} (v : Value) (l : List Nat) (h : ListAt byteV w v l) :
    Calls Tryz.prog 107 #[v] w fun e w' => e = .returned (.bool (zeroB l)) ∧ w = w' := by
  have HL := Lib.hid h
  obtain ⟨a, cap, rfl, -, -, -⟩ := h
  have hmf : ∀ (fn : Fn) (first cap : Array Value) (w : World), (Instr.makeFunc fn first cap).run Tryz.prog w = .ok (.func fn first cap) w := fun _ _ _ _ => rfl
  have HC : Hid (Calls Tryz.prog 130 #[.slice a l.length cap, .func (.func 131) #[] #[]] w fun e w' => e = .returned (.bool (!zeroB l)) ∧ w = w') := by
    show Calls _ _ _ _ _
    go_enter Tryz.func130, Tryz.ntmps130
    go_wp2_with fail
    refine (IndexFunc_any _ l HL.out).mono ?_
    rintro e w1 ⟨i, rfl, hi, hd, rfl⟩
    have HD := Lib.hid hd
    clear hd
    go_wp2
    go_ret
    exact ⟨by rw [← HD.out]; rfl, rfl⟩
  go_enter Tryz.func107, Tryz.ntmps107
  go_wp2_with fail
  refine HC.out.mono ?_
  rintro e w1 ⟨rfl, rfl⟩
  go_wp2
  go_ret
  exact ⟨by simp, rfl⟩
end Go.Proofs.YticoaioeeppapaaGreatDoor
end

section
/- Package symbol: Pick. -/
namespace Go.Proofs.YticoaioeeppapaaGreatDoor
open Go.RowKit Go.Extern.Stop Go.Stop Go.Extern

theorem MatOwn.none {α : Type} {f : α → Value} {te e : TypeId} {base : Nat} (w : World) : MatOwn f te base e w (.slice none 0 0) [] :=
  ⟨[], World.ownsRow_nil _ _ _ _, fun i => by simpa using ElAt.nil f te base _⟩
theorem colsTo_length_le2 (ws : List Nat) (n : Nat) : (colsTo ws n).length ≤ 64 * ws.length := by
  obtain ⟨B, -, hB⟩ := cols_split ws n
  have := colsOf_length_le ws
  rw [hB, List.length_append] at this
  omega

theorem Pick_bad {w : World} (vw v : Value) (ws : List Nat) (L : List (List Nat)) (n k : Int) (hvw : ListAt wordV w vw ws) (h : MatAt byteV w v L) (hn : I64 n) (hk : checkS L n = k) (hk0 : k ≠ 0) :
    Calls Tryz.prog 81 #[vw, v, .int .i64 n] w fun e w' => ∃ E, e = .returned (.tuple #[.slice none 0 0, E]) ∧ ErrAns k namePick w' E ∧ Below w.heap.size w w' := by
  have HM := Lib.hid h
  have HK := Lib.hid hk
  have HN := Lib.hid hn
  have HK0 := Lib.hid hk0
  have hb : (k != 0) = true := by simpa using hk0
  have hb2 : (k == 0) = false := by simpa using hk0
  obtain ⟨a, cap, rfl, -, -, -⟩ := h.opens
  obtain ⟨aw, cw, rfl, -, -, -⟩ := hvw
  clear h hk hn hk0
  go_enter Tryz.func81, Tryz.ntmps81
  go_wp2_with fail
  refine (wrong_any _ L n HM.out HN.out).mono ?_
  rintro e w1 ⟨rfl, rfl⟩
  rw [HK.out]
  go_wp2_with fail
  refine (New_ans namePick k HK0.out _).mono ?_
  rintro e w1 ⟨E1, rfl, he1, hb1⟩
  have HE1 := Lib.hid he1
  have HB1 := Lib.hid hb1
  obtain ⟨u, x, rfl⟩ := he1.some HK0.out
  clear he1 hb1
  go_wp2
  go_ret2
  exact ⟨_, rfl, HE1.out, HB1.out⟩

/-- What Pick says of symbols of m bytes. -/
def PickSays (ws : List Nat) (L : List (List Nat)) (m : Nat) (w w' : World) (e : Ending) : Prop :=
  if behindB ws L.length = true then ∃ E, e = .returned (.tuple #[.slice none 0 0, E]) ∧ ErrAns 2 namePick w' E ∧ Below w.heap.size w w'
  else ∃ v', e = .returned (.tuple #[v', .nilIface]) ∧ w'.ownsRow w.heap.size 5 1 v' m ((sumS m (pickTo ws L L.length)).map byteV) ∧ Below w.heap.size w w'

set_option maxRecDepth 1000000 in
set_option maxHeartbeats 4000000 in
theorem Pick_ok {w : World} (vw v : Value) (ws : List Nat) (L : List (List Nat)) (m : Nat) (hvw : ListAt wordV w vw ws) (hww : Word ws) (hwl : ws.length ≤ 100000) (h : MatAt byteV w v L) (h1 : 1 ≤ m) (h2 : m ≤ 64) (hl : ∀ r ∈ L, r.length = m) (hw : ∀ r ∈ L, Octets r) :
    Calls Tryz.prog 81 #[vw, v, .int .i64 (m : Int)] w fun e w' => PickSays ws L m w w' e := by
  obtain ⟨i0, hi0, hz0, hz1, hz2⟩ := info_parts info_sym
  have hlen := h.len
  have HM := Lib.hid h
  have HK := Lib.hid (checkS_ok h1 h2 hl)
  have HL := Lib.hid hl
  have HW := Lib.hid hw
  have HVW := Lib.hid hvw
  have HWW := Lib.hid hww
  obtain ⟨a, cap, rfl, hcap, -, hcell⟩ := h.opens
  obtain ⟨aw, cw, rfl, -, -, -⟩ := hvw
  have HC := Lib.hid hcell
  clear h hl hw hww hcell
  go_enter Tryz.func81, Tryz.ntmps81
  go_wp2_with fail
  refine (wrong_any _ L (m : Int) HM.out (by omega)).mono ?_
  rintro e w1 ⟨rfl, rfl⟩
  rw [HK.out]
  go_wp2_with fail
  go_loopw [9, 21] (fun o i wr => ∃ k : Nat, k ≤ L.length ∧ i = .int .i64 k ∧ MatOwn byteV 5 w.heap.size 52 wr o (pickTo ws L k) ∧ Below w.heap.size w wr) (fun _ i _ => L.length - (intOf i).toNat)
  case atStart => exact ⟨0, Nat.zero_le _, rfl, MatOwn.none w, Below.refl _ _⟩
  case round =>
    obtain ⟨k, hk, rfl, ⟨vs, hown, hel⟩, hbel⟩ := hrel
    have hsz := hbel.size
    by_cases hlt : k < L.length
    · obtain ⟨b, off, rfl, hcc⟩ := HC.out (by omega)
      obtain ⟨x, hx, hlx⟩ := hcc k hlt
      have hx1 := (hbel.cell (p := ⟨b, off + k, none⟩) (World.block_lt_of_cell? w _ hx)).trans hx
      have HEX : Hid (ElAt byteV 5 w.heap.size wr x (L.getD k [])) := Lib.hid (ElAt.old hlx hbel)
      have hrl := hlx.len
      obtain ⟨ax, cx, rfl, -, -, -⟩ := hlx
      have HQ := Lib.hid (pickTo_length ws L k)
      have hq := colsTo_length_le2 ws k
      have HO := Lib.hid hown
      rw [pickTo_length] at HO
      have HEL := Lib.hid hel
      have HB := Lib.hid hbel
      have HI : Hid (hasI ws (k : Int) = bitW ws k) := Lib.hid (by rw [hasI, if_neg (by omega)]; rfl)
      have HVW1 := Lib.hid (HVW.out.mono hbel)
      have HP := Lib.hid (@pickTo_in ws L k)
      have HPO := Lib.hid (@pickTo_out ws L k)
      clear hcc hx hown hel hbel
      generalize (L.getD k []).length = ll at *
      generalize (colsTo ws k).length = q at *
      cases hb : bitW ws k with
      | true =>
        have HS := Lib.hid (HP.out hb)
        have HI2 : Hid (hasI ws (k : Int) = true) := Lib.hid (HI.out.trans hb)
        clear hb HP HPO HI
        go_wp2_with fail
        refine (Has_any _ ws (k : Int) HVW1.out HWW.out (by omega)).mono ?_
        rintro e w1 ⟨rfl, rfl⟩
        rw [HI2.out]
        go_wp2_with (at_builtin; refine wpList_append_own _ rfl (.tmp 29) (.tmp 31) 44 rfl w.heap.size 52 i0 (.slice none 0 0) 1 24 Tryz.underlying44 hi0 hz0 hz1 hz2 rfl (by decide) u9 q vs rfl (HO.out.alloc _) ⟨wr.heap.size, 0, none⟩ 1 1 [.slice ax ll cx] rfl rfl (cell_one_new _ _ _) (fun x hx => by simp at hx; subst hx; rfl) (by unfold maxLen; omega) (by omega) (by simp; omega) ?_; intro v2 w2 hown1 hgrow1 _; have hb2 := Lib.hid ((HB.out.alloc hsz _).grown hgrow1 (by simp; omega) (fun k hk => (HO.out.lt k hk).1)); have ho2 : Hid (MatOwn byteV 5 w.heap.size 52 w2 v2 (pickTo ws L k ++ [L.getD k []])) := Lib.hid (MatOwn.app (by decide) (by rw [HQ.out]; exact HO.out) HEL.out HEX.out (by rw [HQ.out]; exact hown1) hgrow1); clear hown1 hgrow1)
        go_roundw
        case rel => exact ⟨k + 1, by omega, by go_num, by rw [HS.out]; exact ho2.out, hb2.out⟩
        case measure => simp [intOf]; omega
      | false =>
        have HS := Lib.hid (HPO.out hb)
        have HI2 : Hid (hasI ws (k : Int) = false) := Lib.hid (HI.out.trans hb)
        clear hb HP HPO HI
        go_wp2_with fail
        refine (Has_any _ ws (k : Int) HVW1.out HWW.out (by omega)).mono ?_
        rintro e w1 ⟨rfl, rfl⟩
        rw [HI2.out]
        go_wp2
        go_roundw
        case rel => exact ⟨k + 1, by omega, by go_num, by rw [HS.out]; exact ⟨vs, by rw [HQ.out]; exact HO.out, HEL.out⟩, HB.out⟩
        case measure => simp [intOf]; omega
    · have hk' : k = L.length := by omega
      have hM := MatOwn.at ⟨vs, hown, hel⟩
      rw [hk'] at hM
      have HPM := Lib.hid hM
      have HB := Lib.hid hbel
      have HPL := Lib.hid (fun r hr => HL.out r (pickTo_mem (ws := ws) (Nat.le_refl L.length) r hr))
      have HPW := Lib.hid (fun r hr => HW.out r (pickTo_mem (ws := ws) (Nat.le_refl L.length) r hr))
      have HVW1 := Lib.hid (HVW.out.mono hbel)
      have hpl := pickTo_length ws L L.length
      have hq := colsTo_length_le2 ws L.length
      have hq2 := colsOf_length_le ws
      have HBH : Hid (behindB ws L.length = decide ((colsTo ws L.length).length < (colsOf ws).length)) := Lib.hid rfl
      obtain ⟨pa, pc, rfl, -, -, -⟩ := hM.opens
      rw [hpl] at HPM ⊢
      have HPS : Hid (∀ e w', PickSays ws L m w w' e = if behindB ws L.length = true then ∃ E, e = .returned (.tuple #[.slice none 0 0, E]) ∧ ErrAns 2 namePick w' E ∧ Below w.heap.size w w'
        else ∃ v', e = .returned (.tuple #[v', .nilIface]) ∧ w'.ownsRow w.heap.size 5 1 v' m ((sumS m (pickTo ws L L.length)).map byteV) ∧ Below w.heap.size w w') := Lib.hid fun _ _ => rfl
      clear hown hel hbel hM hpl
      generalize pickTo ws L L.length = R at *
      generalize behindB ws L.length = bh at *
      generalize hcq : (colsTo ws L.length).length = q at *
      generalize hco : (colsOf ws).length = z at *
      have HCO := Lib.hid hco
      clear hcq hco
      by_cases hqz : q < z
      · have HBT : Hid (bh = true) := Lib.hid (by rw [HBH.out]; exact decide_eq_true hqz)
        have hqI : (q : Int) < (z : Int) := by omega
        clear HBH
        go_wp2_with fail
        refine (Count_any _ ws HVW1.out HWW.out hwl).mono ?_
        rintro e w1 ⟨rfl, rfl⟩
        rw [HCO.out]
        go_wp2_with fail
        refine (New_ans namePick 2 (by decide) _).mono ?_
        rintro e w1 ⟨E1, rfl, he1, hb1⟩
        have HE1 := Lib.hid he1
        have HB1 := Lib.hid (HB.out.trans (hb1.mono hsz))
        obtain ⟨u, x, rfl⟩ := he1.some (by decide)
        clear he1 hb1
        go_wp2
        go_ret2
        rw [HPS.out, if_pos HBT.out]
        exact ⟨_, rfl, HE1.out, HB1.out⟩
      · have HBT : Hid (¬ bh = true) := Lib.hid (by rw [HBH.out, decide_eq_false hqz]; decide)
        have hqI : (z : Int) ≤ (q : Int) := by omega
        clear HBH
        go_wp2_with fail
        refine (Count_any _ ws HVW1.out HWW.out hwl).mono ?_
        rintro e w1 ⟨rfl, rfl⟩
        rw [HCO.out]
        go_wp2_with fail
        refine (added_any _ R m HPM.out HPL.out HPW.out (by omega)).mono ?_
        rintro e w1 ⟨v1, rfl, ho1, hb1⟩
        have HO1 := Lib.hid (ownsRow_base ho1 hsz)
        have HB1 := Lib.hid (HB.out.trans (hb1.mono hsz))
        obtain ⟨ao, co, rfl, -, -⟩ := own_open ho1
        clear ho1 hb1
        go_wp2
        go_ret2
        rw [HPS.out, if_neg HBT.out]
        exact ⟨_, rfl, HO1.out, HB1.out⟩
end Go.Proofs.YticoaioeeppapaaGreatDoor
end
