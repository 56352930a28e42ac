import Derived.Test.YticoaioeeppapaaGreatDoorG25
import Derived.Laws.AppendOwnNone
import Derived.Test.YticoaioeeppapaaGreatDoorG12
import Derived.Test.YticoaioeeppapaaGreatDoorG27
import Derived.Lib.SliceRun
import Derived.Test.YticoaioeeppapaaGreatDoorG05
import Derived.Test.YticoaioeeppapaaGreatDoorG07

section
/- Append of a slice that is only read, onto a row of the call's own; what a row of the call's own gives. -/
namespace Go.Proofs.YticoaioeeppapaaGreatDoor
open Go.RowKit Go.Extern.Stop Go.Stop Go.Extern

theorem Word.set {ws : List Nat} (h : Word ws) (k x : Nat) (hx : x < 18446744073709551616) : Word (ws.set k x) := by
  intro y hy
  rcases List.mem_or_eq_of_mem_set hy with hy | rfl
  · exact h y hy
  · exact hx

theorem not_u64 (x : Nat) (hx : x < 18446744073709551616) : bits BinOp.xor IntKind.u64 (if IntKind.u64.signed = true then -1 else IntKind.u64.max) (x : Int) = ((18446744073709551615 ^^^ x : Nat) : Int) := by
  have e : (if IntKind.u64.signed = true then (-1 : Int) else IntKind.u64.max) = ((18446744073709551615 : Nat) : Int) := by decide
  rw [e]
  exact bits_xor_u64_nat _ _ (by decide) hx




end Go.Proofs.YticoaioeeppapaaGreatDoor
end

section
/- Package matrix: formed, Check, add; slices.Clone. -/



namespace Go.Proofs.YticoaioeeppapaaGreatDoor

open Go.RowKit Go.Extern.Stop Go.Stop Go.Extern

theorem shr_zero (x b : Nat) : (((x : Int) / 2 ^ b) == 0) = decide (x / 2 ^ b = 0) := by
  have e : ((x : Int) / 2 ^ b) = ((x / 2 ^ b : Nat) : Int) := by simp
  rw [e]
  by_cases h : x / 2 ^ b = 0
  · rw [h]; rfl
  · rw [decide_eq_false h]
    simp only [beq_eq_false_iff_ne, ne_eq]
    omega

set_option maxRecDepth 1000000 in
theorem formed_any {w : World} (v : Value) (r : List Nat) (n : Nat) (h : ListAt wordV w v r) (hw : Word r) (hn : n ≤ 4096) :
    Calls Tryz.prog 94 #[v, .int .i64 (n : Int)] w fun e w' => e = .returned (.bool (wholeB n r)) ∧ w = w' := by
  have hlen := h.len
  have HS := Lib.hid (sizeI_of hn)
  have hK := kOf_le hn
  obtain ⟨a, cap, rfl, hcap, -, hcell⟩ := h
  by_cases hl : r.length = kOf n
  · have hwl := whole_last hw hl
    by_cases h0 : n % 64 = 0
    · have HR : Hid (wholeB n r = true) := Lib.hid (by rw [hwl, decide_eq_true h0]; rfl)
      have hb : ((r.length : Int) == (kOf n : Int)) = true := by simp; omega
      have hb2 : ((r.length : Int) != (kOf n : Int)) = false := by simp; omega
      have hm : ((n : Int) % 64 == 0) = true := by simp; omega
      clear hcell hw hwl hl h0
      generalize wholeB n r = R at *
      generalize kOf n = K at *
      go_enter Tryz.func94, Tryz.ntmps94
      go_wp2_with fail
      refine (Size_any (n : Int) (by omega)).mono ?_
      rintro e w1 ⟨rfl, rfl⟩
      rw [HS.out]
      go_wp2
      go_ret
      exact ⟨by rw [HR.out]; rfl, rfl⟩
    · have hlt : n / 64 < r.length := by unfold kOf at hl; omega
      obtain ⟨b, off, rfl, hc⟩ := hcell (by omega)
      have hx := hc (n / 64) hlt
      have e : r[n / 64] = r.getD (n / 64) 0 := by simp [hlt]
      rw [e] at hx
      have hxlt := hw.getD (n / 64)
      have HR : Hid (wholeB n r = decide (r.getD (n / 64) 0 / 2 ^ (n % 64) = 0)) := Lib.hid (by rw [hwl, decide_eq_false h0]; rfl)
      have hb : ((r.length : Int) == (kOf n : Int)) = true := by simp; omega
      have hb2 : ((r.length : Int) != (kOf n : Int)) = false := by simp; omega
      have hm : ((n : Int) % 64 == 0) = false := by simp; omega
      have hlt2 : (n : Int) / 64 < (r.length : Int) := by omega
      have hy : w.cell? ⟨b, off + n / 64, none⟩ = some (.int .u64 ((r.getD (n / 64) 0 : Nat) : Int)) := hx
      clear hcell hw hwl h0 hx hc e
      generalize r.getD (n / 64) 0 = x at *
      have hz := shr_zero x (n % 64)
      generalize hd : decide (x / 2 ^ (n % 64) = 0) = D at *
      clear hd
      generalize wholeB n r = R at *
      generalize kOf n = K at *
      clear hl
      cases D with
      | true =>
        go_enter Tryz.func94, Tryz.ntmps94
        go_wp2_with fail
        refine (Size_any (n : Int) (by omega)).mono ?_
        rintro e w1 ⟨rfl, rfl⟩
        rw [HS.out]
        go_wp2
        go_ret
        exact ⟨by rw [HR.out]; rfl, rfl⟩
      | false =>
        go_enter Tryz.func94, Tryz.ntmps94
        go_wp2_with fail
        refine (Size_any (n : Int) (by omega)).mono ?_
        rintro e w1 ⟨rfl, rfl⟩
        rw [HS.out]
        go_wp2
        go_ret
        exact ⟨by rw [HR.out]; rfl, rfl⟩
  · have HR := Lib.hid (wholeB_len hl)
    have hb : ((r.length : Int) == (kOf n : Int)) = false := by simp; omega
    have hb2 : ((r.length : Int) != (kOf n : Int)) = true := by simp; omega
    clear hl hcell hw
    generalize wholeB n r = R at *
    generalize kOf n = K at *
    go_enter Tryz.func94, Tryz.ntmps94
    go_wp2_with fail
    refine (Size_any (n : Int) (by omega)).mono ?_
    rintro e w1 ⟨rfl, rfl⟩
    rw [HS.out]
    go_wp2
    go_ret
    exact ⟨by rw [HR.out]; rfl, rfl⟩

theorem all_false_of {n : Nat} {L : List (List Nat)} {k : Nat} (hk : k < L.length) (h : wholeB n (L.getD k []) = false) : L.all (wholeB n) = false := by
  rw [List.all_eq_false]
  exact ⟨_, getD_mem' hk, by rw [h]; decide⟩
theorem all_true_of {n : Nat} {L : List (List Nat)} (h : ∀ j, j < L.length → wholeB n (L.getD j []) = true) : L.all (wholeB n) = true := by
  rw [List.all_eq_true]
  intro r hr
  obtain ⟨j, hj, rfl⟩ := List.getElem_of_mem hr
  have := h j hj
  simpa [hj] using this

abbrev nameCheck : ByteArray := ⟨#[109, 97, 116, 114, 105, 120, 46, 67, 104, 101, 99, 107]⟩

set_option maxRecDepth 1000000 in
set_option maxHeartbeats 1000000 in
theorem MCheck_any {w : World} (v : Value) (L : List (List Nat)) (n : Int) (h : MatAt wordV w v L) (hw : ∀ r ∈ L, Word r) (hn : -9223372036854775808 ≤ n ∧ n ≤ 9223372036854775807) :
    Calls Tryz.prog 57 #[v, .int .i64 n] w fun e w' => ∃ E, e = .returned E ∧ ErrAns (checkM L n) nameCheck w' E ∧ Below w.heap.size w w' := by
  have hlen := h.len
  have HWD : Hid (∀ k, Word (L.getD k [])) := Lib.hid fun k => h.getD_words hw k
  have HM := Lib.hid h
  obtain ⟨a, cap, rfl, hcap, hcm, hcell⟩ := h.opens
  clear h hw
  have HN := Lib.hid (ListAt.nil intV w)
  by_cases h0 : n < 0 ∨ 4096 < n
  · have HR : Hid (checkM L n = 1) := Lib.hid (by unfold checkM; rw [if_pos h0])
    have HK : Hid (checkI [] n = 1) := Lib.hid (by unfold checkI; rw [if_pos (by rcases h0 with h | h; exact .inl h; exact .inr (.inl h))])
    clear hcell h0
    go_enter Tryz.func57, Tryz.ntmps57
    go_wp2_with fail
    refine (Pack_any _ [] n HN.out hn).mono ?_
    rintro e w1 ⟨pv, E1, rfl, hp, hb1⟩
    unfold packAns at hp
    rw [HK.out, if_neg (by decide)] at hp
    obtain ⟨rfl, hc1⟩ := hp
    have HC1 := Lib.hid hc1
    have HB1 := Lib.hid hb1
    have hsz1 := hb1.size
    obtain ⟨u, v, rfl⟩ := hc1.iface
    clear hc1 hb1
    go_wp2_with fail
    refine (Is_num 1 1 _ _ HC1.out).mono ?_
    rintro e w2 ⟨rfl, rfl⟩
    go_wp2_with fail
    refine (Wrap_chain nameCheck 1 _ _ _ HC1.out).mono ?_
    rintro e w3 ⟨E3, rfl, hc3, hb3⟩
    have HC3 := Lib.hid hc3
    have HB3 := Lib.hid (HB1.out.trans (hb3.mono hsz1))
    obtain ⟨u3, v3, rfl⟩ := hc3.iface
    clear hc3 hb3
    go_wp2
    go_ret
    exact ⟨_, rfl, by rw [HR.out]; exact .inr ⟨by decide, _, HC3.out⟩, HB3.out⟩
  · have hn1 : 0 ≤ n := by omega
    have hn2 : n ≤ 4096 := by omega
    have HK : Hid (checkI [] n = 0) := Lib.hid (by unfold checkI; rw [if_neg (by simp [outI]; omega)]; rfl)
    obtain ⟨m, rfl⟩ : ∃ m : Nat, n = (m : Int) := ⟨n.toNat, by omega⟩
    clear h0
    have HR3 : Hid (4096 < L.length → checkM L (m : Int) = 3) := Lib.hid fun h5 => by unfold checkM; rw [if_neg (by omega), if_pos h5]
    have HR : Hid (¬ 4096 < L.length → ∀ b, L.all (wholeB m) = b → checkM L (m : Int) = if b then 0 else 2) := Lib.hid fun h5 b e => by
      unfold checkM; rw [if_neg (by omega), if_neg h5, show ((m : Int)).toNat = m by omega, e]
    have HC := Lib.hid hcell
    clear hcell
    by_cases h5 : 4096 < L.length
    · have h5' : (4096 : Int) < (L.length : Int) := by omega
      have HR' := Lib.hid (HR3.out h5)
      clear HC
      go_enter Tryz.func57, Tryz.ntmps57
      go_wp2_with fail
      refine (Pack_any _ [] (m : Int) HN.out hn).mono ?_
      rintro e w1 ⟨pv, E1, rfl, hp, hb1⟩
      unfold packAns at hp
      rw [HK.out, if_pos rfl] at hp
      obtain ⟨rfl, ws, hl, -⟩ := hp
      obtain ⟨pa, pc, rfl, -, -, -⟩ := hl
      have HB1 := Lib.hid hb1
      have hsz1 := hb1.size
      clear hb1
      go_wp2_with fail
      refine (Is_nil 1 _).mono ?_
      rintro e w2 ⟨rfl, rfl⟩
      go_wp2_with fail
      refine (New_chain nameCheck 3 (by decide) _).mono ?_
      rintro e w3 ⟨E3, rfl, hc3, hb3⟩
      have HC3 := Lib.hid hc3
      have HB3 := Lib.hid (HB1.out.trans (hb3.mono hsz1))
      obtain ⟨u3, v3, rfl⟩ := hc3.iface
      clear hc3 hb3
      go_wp2
      go_ret
      exact ⟨_, rfl, by rw [HR'.out]; exact .inr ⟨by decide, _, HC3.out⟩, HB3.out⟩
    · have h5' : (L.length : Int) ≤ 4096 := by omega
      have HR' := Lib.hid (HR.out h5)
      go_enter Tryz.func57, Tryz.ntmps57
      go_wp2_with fail
      refine (Pack_any _ [] (m : Int) HN.out hn).mono ?_
      rintro e w1 ⟨pv, E1, rfl, hp, hb1⟩
      unfold packAns at hp
      rw [HK.out, if_pos rfl] at hp
      obtain ⟨rfl, ws, hl, -⟩ := hp
      obtain ⟨pa, pc, rfl, -, -, -⟩ := hl
      have HB1 := Lib.hid hb1
      have hsz1 := hb1.size
      clear hb1
      go_wp2_with fail
      refine (Is_nil 1 _).mono ?_
      rintro e w2 ⟨rfl, rfl⟩
      go_wp2_with fail
      go_loopw [27] (fun i wr => ∃ k : Nat, k ≤ L.length ∧ i = .int .i64 k ∧ (∀ j, j < k → wholeB m (L.getD j []) = true) ∧ w1 = wr) (fun i _ => L.length - (intOf i).toNat)
      case atStart => exact ⟨0, Nat.zero_le _, rfl, fun j hj => by omega, rfl⟩
      case round =>
        obtain ⟨k, hk, rfl, hz, rfl⟩ := hrel
        have HZ := Lib.hid hz
        clear hz
        by_cases hlt : k < L.length
        · obtain ⟨b, off, rfl, hcc⟩ := HC.out (by omega)
          obtain ⟨x, hx, hlx⟩ := hcc k hlt
          have HLX := Lib.hid (hlx.mono HB1.out)
          obtain ⟨ax, cx, rfl, -, -, -⟩ := hlx
          have hx1 : w1.cell? ⟨b, off + k, none⟩ = some (.slice ax (L.getD k []).length cx) := (HB1.out.cell (p := ⟨b, off + k, none⟩) (World.block_lt_of_cell? w _ hx)).trans hx
          have HWX := Lib.hid (HWD.out k)
          have HF : Hid (wholeB m (L.getD k []) = false → L.all (wholeB m) = false) := Lib.hid (all_false_of hlt)
          have HT : Hid (wholeB m (L.getD k []) = true → ∀ j, j < k + 1 → wholeB m (L.getD j []) = true) := Lib.hid fun h j hj => by
            by_cases e : j = k
            · subst e; exact h
            · exact HZ.out j (by omega)
          clear hcc hx
          generalize L.getD k [] = r at *
          cases hb : wholeB m r with
          | true =>
            have HB := Lib.hid hb
            clear hb
            go_wp2_with fail
            refine (formed_any _ r m HLX.out HWX.out (by omega)).mono ?_
            rintro e w2 ⟨rfl, rfl⟩
            rw [HB.out]
            go_wp2
            go_roundw
            case rel => exact ⟨k + 1, by omega, by go_num, HT.out HB.out, trivial⟩
            case measure => simp [intOf]; omega
          | false =>
            have HB := Lib.hid hb
            clear hb
            go_wp2_with fail
            refine (formed_any _ r m HLX.out HWX.out (by omega)).mono ?_
            rintro e w2 ⟨rfl, rfl⟩
            rw [HB.out]
            go_wp2_with fail
            refine (New_chain nameCheck 2 (by decide) _).mono ?_
            rintro e w3 ⟨E3, rfl, hc3, hb3⟩
            have HC3 := Lib.hid hc3
            have HB3 := Lib.hid (HB1.out.trans (hb3.mono hsz1))
            obtain ⟨u3, v3, rfl⟩ := hc3.iface
            clear hc3 hb3
            go_wp2
            go_ret
            exact ⟨_, rfl, by rw [HR'.out _ (HF.out HB.out)]; exact .inr ⟨by decide, _, HC3.out⟩, HB3.out⟩
        · have hk' : k = L.length := by omega
          have HA := Lib.hid (all_true_of fun j hj => HZ.out j (by omega))
          go_wp2
          go_ret
          exact ⟨_, rfl, by rw [HR'.out _ HA.out]; exact .inl ⟨rfl, rfl⟩, HB1.out⟩

/-! ### Clone, add -/

set_option maxRecDepth 1000000 in
theorem Clone_any {w : World} (v : Value) (r : List Nat) (h : ListAt wordV w v r) (hl : r.length ≤ 100000) :
    Calls Tryz.prog 108 #[v] w fun e w' => ∃ v', e = .returned v' ∧ w'.ownsRow w.heap.size 120 1 v' r.length (r.map wordV) ∧ Below w.heap.size w w' := by
  obtain ⟨i0, hi, hz0, hz1, hz2⟩ := info_parts info_u64
  have HL := Lib.hid h
  obtain ⟨a, cap, rfl, -, -, hc⟩ := h
  cases a with
  | none =>
    have hr : r = [] := by
      apply List.eq_nil_of_length_eq_zero
      apply Nat.eq_zero_of_not_pos
      intro hp
      obtain ⟨b, off, e, _⟩ := hc hp
      cases e
    subst hr
    clear hc
    have hq : (binOp .eql 62 (.slice none 0 cap) (.slice none 0 0)).run Tryz.prog w = .ok (.bool true) w := Lib.run_eql_slice_nil w 62 120 none 0 cap 0 0 Tryz.underlying62
    go_enter Tryz.func108, Tryz.ntmps108
    go_wp2
    go_ret
    exact ⟨_, rfl, World.ownsRow_nil _ _ _ _, Below.refl _ _⟩
  | some ad =>
    clear hc
    have HB0 := Lib.hid ((Below.refl w.heap.size w).alloc (Nat.le_refl _) (.cells #[] 120))
    have HO0 := Lib.hid (World.ownsRow_made (base := w.heap.size) (e := 120) (size := 1) w #[] 0 (Nat.le_refl _) (by decide) rfl)
    have HLA := Lib.hid (HL.out.mono HB0.out)
    have hq : (binOp .eql 62 (.slice (some ad) r.length cap) (.slice none 0 0)).run Tryz.prog w = .ok (.bool false) w := Lib.run_eql_slice_nil w 62 120 (some ad) r.length cap 0 0 Tryz.underlying62
    go_enter Tryz.func108, Tryz.ntmps108
    go_wp2_with (at_builtin; refine wpList_append_of (f := wordV) _ rfl (.tmp 5) (.tmp 6) 62 rfl w.heap.size 120 i0 (.int .u64 0) 8 Tryz.underlying62 hi hz0 hz1 hz2 rfl _ 0 [] rfl HO0.out _ r rfl HLA.out (fun y _ => rfl) (by unfold maxLen; omega) (by omega) (by simp) ?_; intro o w1 hown1 hgrow1; have hb1 := Lib.hid (HB0.out.grown hgrow1 (by simp) (fun k hk => (HO0.out.lt k hk).1)); rw [Nat.zero_add, List.nil_append] at hown1; have ho1 := Lib.hid hown1; clear hown1 hgrow1)
    go_ret
    exact ⟨_, rfl, ho1.out, hb1.out⟩

set_option maxRecDepth 1000000 in
set_option maxHeartbeats 1000000 in
/-- add, from the word i on: the words ahead of it are 0 in what is added. -/
theorem add_any {w : World} (B g K cap i m ca h cb : Nat) (x y : List Nat) (hown : w.ownsRow B 120 1 (.slice (some ⟨g, 0, none⟩) K cap) K (x.map wordV)) (hx : Word x) (hxl : x.length = K)
    (hy : Word y) (hyl : y.length = K) (hcell : ∀ j, j < K → w.cell? ⟨h, j, none⟩ = some (.int .u64 ((y.getD j 0 : Nat) : Int))) (hne : h ≠ g) (him : i + m = K) (hz : ∀ j, j < i → y.getD j 0 = 0) (hK : K ≤ 100000) :
    Calls Tryz.prog 121 #[.slice (some ⟨g, i, none⟩) m ca, .slice (some ⟨h, i, none⟩) m cb] w fun e w' => e = .returned (.tuple #[]) ∧ w'.ownsRow B 120 1 (.slice (some ⟨g, 0, none⟩) K cap) K ((xorW x y).map wordV) ∧ w.grownBy w' (some g) := by
  have HX := Lib.hid hx
  have HY := Lib.hid hy
  have HC := Lib.hid hcell
  have HNE := Lib.hid hne
  have HO0 := Lib.hid hown
  have HLX := Lib.hid hxl
  have HLY := Lib.hid hyl
  have HZ0 : Hid (∀ j, j < K → x.getD j 0 = if j < i + 0 then x.getD j 0 ^^^ y.getD j 0 else x.getD j 0) := Lib.hid fun j hj => by
    by_cases e : j < i + 0
    · rw [if_pos e, hz j (by omega), Nat.xor_zero]
    · rw [if_neg e]
  clear hx hy hcell hne hown hxl hyl hz
  go_enter Tryz.func121, Tryz.ntmps121
  go_wp2
  go_loopw [8] (fun q wr => ∃ k : Nat, k ≤ m ∧ q = .int .i64 k ∧ (∃ zs : List Nat, zs.length = K ∧ Word zs ∧ (∀ j, j < K → zs.getD j 0 = if j < i + k then x.getD j 0 ^^^ y.getD j 0 else x.getD j 0) ∧ wr.ownsRow B 120 1 (.slice (some ⟨g, 0, none⟩) K cap) K (zs.map wordV)) ∧ w.grownBy wr (some g)) (fun q _ => m - (intOf q).toNat)
  case atStart => exact ⟨0, Nat.zero_le _, rfl, ⟨x, HLX.out, HX.out, HZ0.out, HO0.out⟩, World.grownBy.refl _ _⟩
  case round =>
    obtain ⟨k, hk, rfl, ⟨zs, hzl, hzw, hzv, hown⟩, hgr⟩ := hrel
    by_cases hlt : k < m
    · have hik : i + k < K := by omega
      have hy1 : wr.cell? ⟨h, i + k, none⟩ = some (.int .u64 ((y.getD (i + k) 0 : Nat) : Int)) := hgr.cell (HC.out (i + k) hik) (by intro e; exact HNE.out (by simpa using e))
      have hx1 : wr.cell? ⟨g, i + k, none⟩ = some (.int .u64 ((x.getD (i + k) 0 : Nat) : Int)) := by
        rw [hown.cellAt (i + k) (by omega)]
        have e := hzv (i + k) hik
        rw [if_neg (by omega)] at e
        have : i + k < zs.length := by omega
        simp only [List.getD_eq_getElem?_getD, List.getElem?_eq_getElem this, Option.getD_some] at e
        simp [this, wordV, e]
      have hf1 : wr.frozen? ⟨g, i + k, none⟩ = false := hown.frozenAt (i + k)
      have hxlt := HX.out.getD (i + k)
      have hylt := HY.out.getD (i + k)
      have hlt3 : x.getD (i + k) 0 ^^^ y.getD (i + k) 0 < 18446744073709551616 := Nat.xor_lt_two_pow (n := 64) hxlt hylt
      have hbx := bits_xor_u64_nat (x.getD (i + k) 0) (y.getD (i + k) 0) hxlt hylt
      have HZ1 : Hid (∀ u, x.getD (i + k) 0 ^^^ y.getD (i + k) 0 = u → ∀ j, j < K → (zs.set (i + k) u).getD j 0 = if j < i + (k + 1) then x.getD j 0 ^^^ y.getD j 0 else x.getD j 0) := Lib.hid fun u e j hj => by
        rw [getD_set _ _ _ _ _ (by omega)]
        by_cases e1 : j = i + k
        · subst e1; rw [if_pos rfl, if_pos (by omega), e]
        · rw [if_neg e1, hzv j hj]
          by_cases e2 : j < i + k
          · rw [if_pos e2, if_pos (by omega)]
          · rw [if_neg e2, if_neg (by omega)]
      have HO := Lib.hid hown
      have HG := Lib.hid hgr
      have HZL := Lib.hid hzl
      have HZW := Lib.hid hzw
      have HL3 := Lib.hid hlt3
      clear hown hgr hzl hzw hzv hxlt hylt hlt3
      generalize x.getD (i + k) 0 = X at *
      generalize y.getD (i + k) 0 = Y at *
      go_wp2
      go_roundw
      case rel => exact ⟨k + 1, by omega, by go_num, ⟨zs.set (i + k) (X ^^^ Y), by simpa using HZL.out, HZW.out.set _ _ HL3.out, HZ1.out _ rfl, by rw [List.map_set]; exact (HO.out.stored (i + k) (.int .u64 ((X ^^^ Y : Nat) : Int))).1⟩, grown_trans HG.out (HO.out.stored (i + k) (.int .u64 ((X ^^^ Y : Nat) : Int))).2⟩
      case measure => simp [intOf]; omega
    · have hk' : k = m := by omega
      have HV : Hid (zs = xorW x y) := Lib.hid (by
        have hxy : x.length = y.length := by rw [HLX.out, HLY.out]
        apply List.ext_getElem (by rw [xorW_length hxy, hzl, HLX.out])
        intro j hj1 hj2
        have e := hzv j (by omega)
        rw [if_pos (by omega), ← xorW_getD hxy] at e
        simpa [List.getD_eq_getElem?_getD, hj1, hj2] using e)
      have HO := Lib.hid hown
      have HG := Lib.hid hgr
      clear hown hgr hzv hzl hzw
      go_wp2
      go_end0
      exact ⟨rfl, by rw [← HV.out]; exact HO.out, HG.out⟩
end Go.Proofs.YticoaioeeppapaaGreatDoor
end

section
/- Least columns by words, no program. -/
namespace Go.Proofs.YticoaioeeppapaaGreatDoor
open Go.RowKit Go.Extern.Stop Go.Stop Go.Extern

/-- The words ahead of the least column's are 0. -/
theorem lead_words {y : List Nat} (hy : Word y) {c i : Nat} (h : ∀ d, d < c → bitW y d = false) (hi : 64 * i ≤ c) : ∀ j, j < i → y.getD j 0 = 0 := fun j hj => by
  apply Nat.eq_of_testBit_eq
  intro b
  rw [Nat.zero_testBit]
  by_cases hb : b < 64
  · rw [← bitW_at y j b hb]; exact h _ (by omega)
  · exact Nat.testBit_lt_two_pow (Nat.lt_of_lt_of_le (hy.getD j) (Nat.pow_le_pow_right (n := 2) (by decide) (show 64 ≤ b by omega)))
theorem ctz_more {x z : Nat} (hx : x < 18446744073709551616) (hz : z < 64) (h : ∀ b, b ≤ z → x.testBit b = false) : z < Lib.ctz 64 x := by
  by_cases h0 : x = 0
  · subst h0; unfold Lib.ctz; rw [if_pos rfl]; exact hz
  · obtain ⟨h1, h2, h3⟩ := testBit_ctz x h0 hx
    apply Nat.lt_of_not_le
    intro hle
    rw [h _ hle] at h2
    cases h2
theorem ctz_le (x : Nat) (hx : x < 18446744073709551616) : Lib.ctz 64 x ≤ 64 := by
  by_cases h0 : x = 0
  · subst h0; unfold Lib.ctz; rw [if_pos rfl]; exact Nat.le_refl _
  · exact Nat.le_of_lt (testBit_ctz x h0 hx).1
/-- The least column lies in the first word that is not 0. -/
theorem lead_at {x : List Nat} {i : Nat} (hw : Word x) (hz : ∀ j, j < i → x.getD j 0 = 0) (h0 : x.getD i 0 ≠ 0) : Lead (bitW x) (i * 64 + Lib.ctz 64 (x.getD i 0)) := by
  obtain ⟨h1, h2, h3⟩ := testBit_ctz _ h0 (hw.getD i)
  refine ⟨by rw [bitW_at _ _ _ h1]; exact h2, fun d hd => ?_⟩
  by_cases hdi : d / 64 < i
  · unfold bitW; rw [hz _ hdi]; simp
  · have e : d = i * 64 + (d - i * 64) := by omega
    rw [e, bitW_at _ _ _ (by omega)]
    exact h3 _ (by omega)
theorem zero_of_words {x : List Nat} (hz : ∀ j, j < x.length → x.getD j 0 = 0) : bitW x = vzero := by
  funext c
  unfold bitW vzero
  by_cases h : c / 64 < x.length
  · rw [hz _ h]; simp
  · rw [List.getD_eq_getElem?_getD, List.getElem?_eq_none (by omega)]; simp

theorem step_word {y s : List Nat} {k : Nat} (hy : Word y) (hs : Word s) (hl : y.length = s.length) (h0 : y.getD k 0 ≠ 0) (hlead : Lead (bitW s) (k * 64 + Lib.ctz 64 (y.getD k 0))) :
    Lib.ctz 64 (y.getD k 0) < Lib.ctz 64 ((xorW y s).getD k 0) := by
  obtain ⟨h1, h2, h3⟩ := testBit_ctz _ h0 (hy.getD k)
  rw [xorW_getD hl]
  refine ctz_more (Nat.xor_lt_two_pow (n := 64) (hy.getD k) (hs.getD k)) h1 fun b hb => ?_
  rw [Nat.testBit_xor]
  by_cases e : b = Lib.ctz 64 (y.getD k 0)
  · have := hlead.1
    rw [bitW_at _ _ _ h1] at this
    rw [e, h2, this]; rfl
  · have hb' : b < Lib.ctz 64 (y.getD k 0) := by omega
    have := hlead.2 (k * 64 + b) (by omega)
    rw [bitW_at _ _ _ (by omega)] at this
    rw [h3 b hb', this]; rfl
theorem xor_zero_words {y s : List Nat} {k : Nat} (hl : y.length = s.length) (h1 : ∀ j, j < k → y.getD j 0 = 0) (h2 : ∀ j, j < k → s.getD j 0 = 0) : ∀ j, j < k → (xorW y s).getD j 0 = 0 := fun j hj => by
  rw [xorW_getD hl, h1 j hj, h2 j hj]; rfl

end Go.Proofs.YticoaioeeppapaaGreatDoor
end
