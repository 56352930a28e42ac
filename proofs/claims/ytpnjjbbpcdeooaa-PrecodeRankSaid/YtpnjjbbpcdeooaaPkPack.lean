/- Packages packed and geyserref02: the document's Pack and Check; packed.Pack, Xor, Odd. -/
import Derived.Test.YtpnjjbbpcdeooaaPkIn
import Derived.Test.YtpnjjbbpcdeooaaLists
import Derived.OwnWalk
import Derived.WalkSpells
import Derived.WalkLawsBesides
import Derived.Deep.LoopGhost
namespace Go.Proofs.Ytpnjjbbpcdeooaa
open Go.RowKit Go.Extern.Stop Go.Stop Go.Extern

/-! ### the document's Pack -/
def inP (l : List Int) (c : Nat) : Bool := decide ((c : Int) ∈ l)
def packW (l : List Int) (k : Nat) : List Nat := (List.range k).map fun i => bitsDown (inP l) i 64
theorem packW_succ (l : List Int) (k : Nat) : packW l (k + 1) = packW l k ++ [bitsDown (inP l) k 64] := by unfold packW; rw [List.range_succ, List.map_append]; rfl
theorem packW_length (l : List Int) (k : Nat) : (packW l k).length = k := by simp [packW]
theorem sizeI_nat (n : Int) : ∃ k : Nat, sizeI n = (k : Int) ∧ k ≤ 64 := by
  unfold sizeI
  split
  · exact ⟨0, rfl, by omega⟩
  · exact ⟨((n + 63) / 64).toNat, by omega, by omega⟩

set_option maxRecDepth 1000000 in
set_option maxHeartbeats 4000000 in
theorem refPack_own {w : World} (v : Value) (l : List Int) (n : Int) (h : ListAt intV w v l) (hn : -9223372036854775808 ≤ n ∧ n ≤ 9223372036854775807) :
    Calls Try.prog 9 #[v, .int .i64 n] w fun e w' => ∃ v', e = .returned v' ∧ w'.ownsRow w.heap.size 50 1 v' (sizeI n).toNat ((packW l (sizeI n).toNat).map wordV) ∧ Below w.heap.size w w' := by
  obtain ⟨i0, hi, hz0, hz1, hz2⟩ := info_parts info_u64
  have H1 := Lib.hid h
  have HN := Lib.hid hn
  obtain ⟨a1, cap1, rfl, -, -, -⟩ := h
  obtain ⟨K, hK, hK64⟩ := sizeI_nat n
  have HK : Hid ((sizeI n).toNat = K) := Lib.hid (by omega)
  clear hn
  go_enter Try.func9, Try.ntmps9
  go_wp2
  go_loopw [5, 6] (fun v i wr => ∃ k : Nat, k ≤ K ∧ i = .int .i64 k ∧ wr.ownsRow w.heap.size 50 1 v (packW l k).length ((packW l k).map wordV) ∧ Below w.heap.size w wr) (fun _ i _ => K - (intOf i).toNat)
  case atStart => exact ⟨0, Nat.zero_le _, rfl, World.ownsRow_made (base := w.heap.size) (e := 50) (size := 1) w #[] 0 (Nat.le_refl _) (by decide) rfl, (Below.refl _ _).alloc (Nat.le_refl _) _⟩
  case round =>
    obtain ⟨k, hk, rfl, hown, hbel⟩ := hrel
    have hsz := hbel.size
    have hq := packW_length l k
    have HO1 := Lib.hid hown
    have HB := Lib.hid hbel
    clear hown hbel
    go_wp2_with fail
    refine (refSize_any n HN.out).mono ?_
    rintro e w1 ⟨rfl, rfl⟩
    rw [hK]
    by_cases hlt : k < K
    · go_wp2_with fail
      go_loopw [7, 8] (fun x b wq => ∃ m : Nat, m ≤ 64 ∧ b = .int .i64 (63 - (m : Int)) ∧ x = .int .u64 ((bitsDown (inP l) k m : Nat) : Int) ∧ wr = wq) (fun _ b _ => (intOf b + 1).toNat)
      case atStart => exact ⟨0, by omega, rfl, rfl, rfl⟩
      case round =>
        obtain ⟨m, hm, rfl, rfl, rfl⟩ := hrel
        by_cases hlm : m < 64
        · obtain ⟨hxlt, -⟩ := bitsDown_spec (inP l) k m (by omega)
          have h63 : 2 ^ m ≤ 2 ^ 63 := Nat.pow_le_pow_right (by decide) (by omega)
          have hxb : bitsDown (inP l) k m < 9223372036854775808 := by omega
          have HS : Hid (bitsDown (inP l) k (m + 1) = 2 * bitsDown (inP l) k m + (inP l (64 * k + (63 - m))).toNat) := Lib.hid rfl
          have HP : Hid (inP l (64 * k + (63 - m)) = decide ((64 * (k : Int) + (63 - (m : Int))) ∈ l)) := Lib.hid (by unfold inP; congr 2; omega)
          clear hxlt h63
          generalize bitsDown (inP l) k m = x at *
          have hw2 : IntKind.u64.wrap (2 * (x : Int)) = ((2 * x : Nat) : Int) := by rw [IntKind.wrap_u64]; omega
          have hw3 : IntKind.u64.wrap (((2 * x : Nat) : Int) + 1) = ((2 * x + 1 : Nat) : Int) := by rw [IntKind.wrap_u64]; omega
          by_cases hb : (64 * (k : Int) + (63 - (m : Int))) ∈ l
          · have HD := Lib.hid (decide_eq_true hb)
            clear hb
            go_wp2_with fail
            refine (In_any _ l (64 * (k : Int) + (63 - (m : Int))) (H1.out.mono HB.out)).mono ?_
            rintro e w1 ⟨rfl, rfl⟩
            rw [HD.out]
            go_wp2
            go_roundw
            case rel => exact ⟨m + 1, by omega, by go_num, by rw [HS.out, HP.out, HD.out]; exact congrArg (Value.int .u64) (show (2 * (x : Int) + 1) = ((2 * x + 1 : Nat) : Int) by omega), trivial⟩
            case measure => simp [intOf]; omega
          · have HD := Lib.hid (decide_eq_false hb)
            clear hb
            go_wp2_with fail
            refine (In_any _ l (64 * (k : Int) + (63 - (m : Int))) (H1.out.mono HB.out)).mono ?_
            rintro e w1 ⟨rfl, rfl⟩
            rw [HD.out]
            go_wp2
            go_roundw
            case rel => exact ⟨m + 1, by omega, by go_num, by rw [HS.out, HP.out, HD.out]; exact congrArg (Value.int .u64) (show (2 * (x : Int)) = ((2 * x + 0 : Nat) : Int) by omega), trivial⟩
            case measure => simp [intOf]; omega
        · have hm64 : m = 64 := by omega
          subst hm64
          have HS := Lib.hid (packW_succ l k)
          have HO := Lib.hid (HO1.out.alloc (.cells #[.int .u64 ((bitsDown (inP l) k 64 : Nat) : Int)] 50))
          rw [hq] at HO
          have HQ := Lib.hid hq
          generalize bitsDown (inP l) k 64 = x at *
          go_wp2_with (at_builtin; refine wpList_append_own _ rfl (.tmp 30) (.tmp 32) 34 rfl w.heap.size 50 i0 (.int .u64 0) 1 8 Try.underlying34 hi hz0 hz1 hz2 rfl (by decide) u5 k ((packW l k).map wordV) rfl HO.out ⟨wr.heap.size, 0, none⟩ 1 1 [.int .u64 (x : Int)] rfl rfl (cell_one_new _ _ _) (fun x hx => by simp at hx; subst hx; rfl) (by unfold maxLen; omega) (by omega) (by simp; omega) ?_; intro v2 w2 hown1 hgrow1 _; have hb2 := Lib.hid ((HB.out.alloc hsz _).grown hgrow1 (by simp; omega) (fun k hk => (HO.out.lt k hk).1)); have ho2 := Lib.hid hown1; clear hown1 hgrow1)
          go_roundw
          case rel => exact ⟨k + 1, by omega, by go_num, by rw [HS.out]; exact own_snoc HQ.out ho2.out, hb2.out⟩
          case measure => simp [intOf]; omega
    · have hk' : k = K := by omega
      go_wp2
      go_ret
      exact ⟨u5, rfl, by have := HO1.out; rw [hk', packW_length] at this; rw [HK.out]; exact this, HB.out⟩

theorem refPack_any {w : World} (v : Value) (l : List Int) (n : Int) (h : ListAt intV w v l) (hn : -9223372036854775808 ≤ n ∧ n ≤ 9223372036854775807) :
    Calls Try.prog 9 #[v, .int .i64 n] w fun e w' => ∃ v', e = .returned v' ∧ ListAt wordV w' v' (packW l (sizeI n).toNat) ∧ Below w.heap.size w w' := by
  refine (refPack_own v l n h hn).mono ?_
  rintro e w' ⟨v', he, ho, hb⟩
  exact ⟨v', he, .of_owns ho, hb⟩

/-! ### the document's Check -/
def checkI (l : List Int) (n : Int) : Int := if n < 0 ∨ 4096 < n ∨ outI l n = true then 1 else if l.Nodup then 0 else 2

theorem nodup_snoc {α : Type} [DecidableEq α] (l : List α) (x : α) (h : l.Nodup) (hx : x ∉ l) : (l ++ [x]).Nodup := by
  unfold List.Nodup at *
  rw [List.pairwise_append]
  exact ⟨h, by simp, fun a ha b hb => by simp at hb; subst hb; intro e; exact hx (e ▸ ha)⟩
theorem not_nodup_of {l : List Int} {k : Nat} (hk : k < l.length) (h : l[k] ∈ l.take k) : ¬ l.Nodup := by
  intro hn
  have h2 : (l.take (k + 1)).Nodup := hn.sublist (List.take_sublist _ _)
  rw [List.take_succ_eq_append_getElem hk] at h2
  unfold List.Nodup at h2
  rw [List.pairwise_append] at h2
  exact h2.2.2 _ h _ (by simp) rfl

set_option maxRecDepth 1000000 in
set_option maxHeartbeats 4000000 in
theorem Check_any {w : World} (v : Value) (l : List Int) (n : Int) (h : ListAt intV w v l) :
    Calls Try.prog 8 #[v, .int .i64 n] w fun e w' => e = .returned (.int .i64 (checkI l n)) ∧ Below w.heap.size w w' := by
  have hlen := h.len
  have H1 := Lib.hid h
  obtain ⟨a1, cap1, rfl, hcap, -, hcell⟩ := h
  have HC := Lib.hid hcell
  clear hcell
  by_cases h0 : n < 0
  · go_enter Try.func8, Try.ntmps8
    go_wp2
    go_ret
    exact ⟨by rw [checkI, if_pos (.inl h0)]; rfl, Below.refl _ _⟩
  by_cases h4 : 4096 < n
  · go_enter Try.func8, Try.ntmps8
    go_wp2
    go_ret
    exact ⟨by rw [checkI, if_pos (.inr (.inl h4))]; rfl, Below.refl _ _⟩
  go_enter Try.func8, Try.ntmps8
  go_wp2
  go_loopw [5] (fun i wr => ∃ k : Nat, k ≤ l.length ∧ i = .int .i64 k ∧ (∀ j (hj : j < l.length), j < k → 0 ≤ l[j] ∧ l[j] < n) ∧ w = wr) (fun i _ => l.length - (intOf i).toNat)
  case atStart => exact ⟨0, Nat.zero_le _, rfl, fun j _ hj => by omega, rfl⟩
  case round =>
    obtain ⟨k, hk, rfl, hz, rfl⟩ := hrel
    have HZ := Lib.hid hz
    clear hz
    by_cases hlt : k < l.length
    · obtain ⟨b, off, rfl, hcc⟩ := HC.out (by omega)
      have hx : w.cell? ⟨b, off + k, none⟩ = some (.int .i64 l[k]) := hcc k hlt
      have HM : Hid (l[k] ∈ l) := Lib.hid (List.getElem_mem hlt)
      have HY : Hid (∀ y, l[k] = y → 0 ≤ y ∧ y < n → ∀ j (hj : j < l.length), j < k + 1 → 0 ≤ l[j] ∧ l[j] < n) := Lib.hid fun y e hy j hj hjk => by
        by_cases e2 : j = k
        · subst e2; rw [e]; exact hy
        · exact HZ.out j hj (by omega)
      clear hcc
      generalize l[k] = y at hx HM HY
      by_cases h1 : y < 0
      · go_wp2
        go_ret
        have : outI l n = true := List.any_eq_true.2 ⟨y, HM.out, by simp [h1]⟩
        exact ⟨by rw [checkI, if_pos (.inr (.inr this))]; rfl, Below.refl _ _⟩
      · by_cases h2 : y < n
        · go_wp2
          go_roundw
          case rel => exact ⟨k + 1, by omega, by go_num, HY.out y rfl ⟨by omega, h2⟩, trivial⟩
          case measure => simp [intOf]; omega
        · go_wp2
          go_ret
          have : outI l n = true := List.any_eq_true.2 ⟨y, HM.out, by simp; omega⟩
          exact ⟨by rw [checkI, if_pos (.inr (.inr this))]; rfl, Below.refl _ _⟩
    · have hk' : k = l.length := by omega
      have HOUT : Hid (outI l n = false) := Lib.hid (by
        unfold outI
        rw [List.any_eq_false]
        intro c hc
        obtain ⟨j, hj, e⟩ := List.getElem_of_mem hc
        have := HZ.out j hj (by omega)
        rw [e] at this
        simp; omega)
      clear HZ
      go_wp2
      go_loopw [6] (fun i wr => ∃ k : Nat, k ≤ l.length ∧ i = .int .i64 k ∧ (l.take k).Nodup ∧ Below w.heap.size w wr) (fun i _ => l.length - (intOf i).toNat)
      case atStart => exact ⟨0, Nat.zero_le _, rfl, by simp, Below.refl _ _⟩
      case round =>
        obtain ⟨k, hk, rfl, hnd, hbel⟩ := hrel
        have HND := Lib.hid hnd
        have HB := Lib.hid hbel
        by_cases hlt : k < l.length
        · obtain ⟨b, off, rfl, hcc⟩ := HC.out (by omega)
          have hx0 : w.cell? ⟨b, off + k, none⟩ = some (.int .i64 l[k]) := hcc k hlt
          have hx : wr.cell? ⟨b, off + k, none⟩ = some (.int .i64 l[k]) := (hbel.cell (p := ⟨b, off + k, none⟩) (World.block_lt_of_cell? w _ hx0)).trans hx0
          have HT := Lib.hid ((H1.out.mono hbel).take k hk)
          have HX : Hid (∀ y, l[k] = y → y ∈ l.take k → ¬ l.Nodup) := Lib.hid fun y e hy => by subst e; exact not_nodup_of hlt hy
          have HY : Hid (∀ y, l[k] = y → y ∉ l.take k → (l.take (k + 1)).Nodup) := Lib.hid fun y e hy => by
            subst e
            rw [List.take_succ_eq_append_getElem hlt]
            exact nodup_snoc _ _ HND.out hy
          clear hcc hx0 hbel hnd
          generalize l[k] = y at hx HX HY
          have hkc : (k : Int) ≤ (cap1 : Int) := by omega
          have HCall : Hid (∀ nd : Nat, Calls Try.prog 21 #[.slice (some ⟨b, off, none⟩) k cap1, .int .i64 y] (wr.drewN nd) fun e w'' => e = .returned (.bool (decide (y ∈ l.take k))) ∧ w'' = wr.drewN nd) := Lib.hid fun nd => by
            refine (In_any _ (l.take k) y (HT.out.mono (below_draws (Below.refl _ _) nd))).mono ?_
            rintro e w' ⟨rfl, rfl⟩
            exact ⟨rfl, rfl⟩
          go_wp2_with fail
          go_quiet (exact Calls.quiet_of_same (HCall.out _))
          by_cases hb : y ∈ l.take k
          · have HD := Lib.hid (decide_eq_true hb)
            rw [HD.out]
            have HNN := Lib.hid (HX.out y rfl hb)
            clear hb
            go_wp2
            go_ret
            exact ⟨by rw [checkI, if_neg (by rw [HOUT.out]; simp; omega), if_neg HNN.out]; rfl, below_draws HB.out _⟩
          · have HD := Lib.hid (decide_eq_false hb)
            rw [HD.out]
            have HNN := Lib.hid (HY.out y rfl hb)
            clear hb
            go_wp2
            go_roundw
            case rel => exact ⟨k + 1, by omega, by go_num, HNN.out, below_draws HB.out _⟩
            case measure => simp [intOf]; omega
        · have hk' : k = l.length := by omega
          clear hbel hnd
          go_wp2
          go_ret
          have hnd : l.Nodup := by have := HND.out; rwa [hk', List.take_length] at this
          exact ⟨by rw [checkI, if_neg (by rw [HOUT.out]; simp; omega), if_pos hnd]; rfl, HB.out⟩
end Go.Proofs.Ytpnjjbbpcdeooaa
