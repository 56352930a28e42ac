/- Packages packed and geyserref02: the document's Pack and Check; packed.Pack, Xor, Odd. -/
import Derived.Test.YtnkkaggepokjeaaDoorPkMake
namespace Go.Proofs.YtnkkaggepokjeaaDoor
open Go.RowKit Go.Extern.Stop Go.Stop Go.Extern

/-! ### the document's Pack -/
def inP (l : List Int) (c : Nat) : Bool := decide ((c : Int) ∈ l)
def packW (l : List Int) (k : Nat) : List Nat := (List.range k).map fun i => bitsDown (inP l) i 64
theorem packW_succ (l : List Int) (k : Nat) : packW l (k + 1) = packW l k ++ [bitsDown (inP l) k 64] := by unfold packW; rw [List.range_succ, List.map_append]; rfl
theorem packW_length (l : List Int) (k : Nat) : (packW l k).length = k := by simp [packW]
theorem sizeI_nat (n : Int) : ∃ k : Nat, sizeI n = (k : Int) ∧ k ≤ 64 := by
  unfold sizeI
  split
  · exact ⟨0, rfl, by omega⟩
  · exact ⟨((n + 63) / 64).toNat, by omega, by omega⟩

set_option maxRecDepth 1000000 in
set_option maxHeartbeats 4000000 in
theorem refPack_own {w : World} (v : Value) (l : List Int) (n : Int) (h : ListAt intV w v l) (hn : -9223372036854775808 ≤ n ∧ n ≤ 9223372036854775807) :
    Calls Tryd.prog 18 #[v, .int .i64 n] w fun e w' => ∃ v', e = .returned v' ∧ w'.ownsRow w.heap.size 47 1 v' (sizeI n).toNat ((packW l (sizeI n).toNat).map wordV) ∧ Below w.heap.size w w' := by
  obtain ⟨i0, hi, hz0, hz1, hz2⟩ := info_parts info_u64
  have H1 := Lib.hid h
  have HN := Lib.hid hn
  obtain ⟨a1, cap1, rfl, -, -, -⟩ := h
  obtain ⟨K, hK, hK64⟩ := sizeI_nat n
  have HK : Hid ((sizeI n).toNat = K) := Lib.hid (by omega)
  clear hn
  go_enter Tryd.func18, Tryd.ntmps18
  go_wp2
  go_loopw [5, 6] (fun v i wr => ∃ k : Nat, k ≤ K ∧ i = .int .i64 k ∧ wr.ownsRow w.heap.size 47 1 v (packW l k).length ((packW l k).map wordV) ∧ Below w.heap.size w wr) (fun _ i _ => K - (intOf i).toNat)
  case atStart => exact ⟨0, Nat.zero_le _, rfl, World.ownsRow_made (base := w.heap.size) (e := 47) (size := 1) w #[] 0 (Nat.le_refl _) (by decide) rfl, (Below.refl _ _).alloc (Nat.le_refl _) _⟩
  case round =>
    obtain ⟨k, hk, rfl, hown, hbel⟩ := hrel
    have hsz := hbel.size
    have hq := packW_length l k
    have HO1 := Lib.hid hown
    have HB := Lib.hid hbel
    clear hown hbel
    go_wp2_with fail
    refine (refSize_any n HN.out).mono ?_
    rintro e w1 ⟨rfl, rfl⟩
    rw [hK]
    by_cases hlt : k < K
    · go_wp2_with fail
      go_loopw [7, 8] (fun x b wq => ∃ m : Nat, m ≤ 64 ∧ b = .int .i64 (63 - (m : Int)) ∧ x = .int .u64 ((bitsDown (inP l) k m : Nat) : Int) ∧ wr = wq) (fun _ b _ => (intOf b + 1).toNat)
      case atStart => exact ⟨0, by omega, rfl, rfl, rfl⟩
      case round =>
        obtain ⟨m, hm, rfl, rfl, rfl⟩ := hrel
        by_cases hlm : m < 64
        · obtain ⟨hxlt, -⟩ := bitsDown_spec (inP l) k m (by omega)
          have h63 : 2 ^ m ≤ 2 ^ 63 := Nat.pow_le_pow_right (by decide) (by omega)
          have hxb : bitsDown (inP l) k m < 9223372036854775808 := by omega
          have HS : Hid (bitsDown (inP l) k (m + 1) = 2 * bitsDown (inP l) k m + (inP l (64 * k + (63 - m))).toNat) := Lib.hid rfl
          have HP : Hid (inP l (64 * k + (63 - m)) = decide ((64 * (k : Int) + (63 - (m : Int))) ∈ l)) := Lib.hid (by unfold inP; congr 2; omega)
          clear hxlt h63
          generalize bitsDown (inP l) k m = x at *
          have hw2 : IntKind.u64.wrap (2 * (x : Int)) = ((2 * x : Nat) : Int) := by rw [IntKind.wrap_u64]; omega
          have hw3 : IntKind.u64.wrap (((2 * x : Nat) : Int) + 1) = ((2 * x + 1 : Nat) : Int) := by rw [IntKind.wrap_u64]; omega
          by_cases hb : (64 * (k : Int) + (63 - (m : Int))) ∈ l
          · have HD := Lib.hid (decide_eq_true hb)
            clear hb
            go_wp2_with fail
            refine (In_any _ l (64 * (k : Int) + (63 - (m : Int))) (H1.out.mono HB.out)).mono ?_
            rintro e w1 ⟨rfl, rfl⟩
            rw [HD.out]
            go_wp2
            go_roundw
            case rel => exact ⟨m + 1, by omega, by go_num, by rw [HS.out, HP.out, HD.out]; exact congrArg (Value.int .u64) (show (2 * (x : Int) + 1) = ((2 * x + 1 : Nat) : Int) by omega), trivial⟩
            case measure => simp [intOf]; omega
          · have HD := Lib.hid (decide_eq_false hb)
            clear hb
            go_wp2_with fail
            refine (In_any _ l (64 * (k : Int) + (63 - (m : Int))) (H1.out.mono HB.out)).mono ?_
            rintro e w1 ⟨rfl, rfl⟩
            rw [HD.out]
            go_wp2
            go_roundw
            case rel => exact ⟨m + 1, by omega, by go_num, by rw [HS.out, HP.out, HD.out]; exact congrArg (Value.int .u64) (show (2 * (x : Int)) = ((2 * x + 0 : Nat) : Int) by omega), trivial⟩
            case measure => simp [intOf]; omega
        · have hm64 : m = 64 := by omega
          subst hm64
          have HS := Lib.hid (packW_succ l k)
          have HO := Lib.hid (HO1.out.alloc (.cells #[.int .u64 ((bitsDown (inP l) k 64 : Nat) : Int)] 47))
          rw [hq] at HO
          have HQ := Lib.hid hq
          generalize bitsDown (inP l) k 64 = x at *
          go_wp2_with (at_builtin; refine wpList_append_own _ rfl (.tmp 30) (.tmp 32) 38 rfl w.heap.size 47 i0 (.int .u64 0) 1 8 Tryd.underlying38 hi hz0 hz1 hz2 rfl (by decide) u5 k ((packW l k).map wordV) rfl HO.out ⟨wr.heap.size, 0, none⟩ 1 1 [.int .u64 (x : Int)] rfl rfl (cell_one_new _ _ _) (fun x hx => by simp at hx; subst hx; rfl) (by unfold maxLen; omega) (by omega) (by simp; omega) ?_; intro v2 w2 hown1 hgrow1 _; have hb2 := Lib.hid ((HB.out.alloc hsz _).grown hgrow1 (by simp; omega) (fun k hk => (HO.out.lt k hk).1)); have ho2 := Lib.hid hown1; clear hown1 hgrow1)
          go_roundw
          case rel => exact ⟨k + 1, by omega, by go_num, by rw [HS.out]; exact own_snoc HQ.out ho2.out, hb2.out⟩
          case measure => simp [intOf]; omega
    · have hk' : k = K := by omega
      go_wp2
      go_ret
      exact ⟨u5, rfl, by have := HO1.out; rw [hk', packW_length] at this; rw [HK.out]; exact this, HB.out⟩

theorem refPack_any {w : World} (v : Value) (l : List Int) (n : Int) (h : ListAt intV w v l) (hn : -9223372036854775808 ≤ n ∧ n ≤ 9223372036854775807) :
    Calls Tryd.prog 18 #[v, .int .i64 n] w fun e w' => ∃ v', e = .returned v' ∧ ListAt wordV w' v' (packW l (sizeI n).toNat) ∧ Below w.heap.size w w' := by
  refine (refPack_own v l n h hn).mono ?_
  rintro e w' ⟨v', he, ho, hb⟩
  exact ⟨v', he, .of_owns ho, hb⟩

/-! ### the document's Check -/
def checkI (l : List Int) (n : Int) : Int := if n < 0 ∨ 4096 < n ∨ outI l n = true then 1 else if l.Nodup then 0 else 2

theorem nodup_snoc {α : Type} [DecidableEq α] (l : List α) (x : α) (h : l.Nodup) (hx : x ∉ l) : (l ++ [x]).Nodup := by
  unfold List.Nodup at *
  rw [List.pairwise_append]
  exact ⟨h, by simp, fun a ha b hb => by simp at hb; subst hb; intro e; exact hx (e ▸ ha)⟩
theorem not_nodup_of {l : List Int} {k : Nat} (hk : k < l.length) (h : l[k] ∈ l.take k) : ¬ l.Nodup := by
  intro hn
  have h2 : (l.take (k + 1)).Nodup := hn.sublist (List.take_sublist _ _)
  rw [List.take_succ_eq_append_getElem hk] at h2
  unfold List.Nodup at h2
  rw [List.pairwise_append] at h2
  exact h2.2.2 _ h _ (by simp) rfl

end Go.Proofs.YtnkkaggepokjeaaDoor
