import Derived.Test.YtkfimdpcadbcpaaGreatDoorA17
import Derived.Test.YtkfimdpcadbcpaaGreatDoorA14
import Derived.Deep.AppendLies
import Derived.Deep.RegionLaw
import Derived.Deep.Cut
import Derived.Deep.CutBlock
import Derived.Deep.CutRange
import Derived.Deep.DeepCutAuto
import Derived.Deep.RegionHeld3
import Derived.Test.YtkfimdpcadbcpaaGreatDoorA11
import Derived.Test.YtkfimdpcadbcpaaGreatDoorA10
import Derived.Test.YtkfimdpcadbcpaaGreatDoorA12
import Derived.Test.YtkfimdpcadbcpaaGreatDoorA13
import Derived.Test.YtkfimdpcadbcpaaGreatDoorA07
import Derived.Test.YtkfimdpcadbcpaaGreatDoorA02
import Derived.Test.YtkfimdpcadbcpaaGreatDoorA09
import Derived.Test.YtkfimdpcadbcpaaGreatDoorA01
import Derived.OwnWalk
import Derived.WalkSpells
import Derived.WalkLawsBesides
import Derived.Deep.LoopGhost
import Derived.BigQuiet
import Derived.Deep.QuietTactic
import Derived.Test.YtkfimdpcadbcpaaGreatDoorA04
import Derived.Laws.AppendOwnNone
import Derived.Test.YtkfimdpcadbcpaaGreatDoorA03
import Derived.Lib.SliceRun
import Derived.Laws.Rows
import Derived.Test.YtkfimdpcadbcpaaGreatDoorA06
set_option linter.unusedSimpArgs false
set_option linter.unusedVariables false
set_option maxRecDepth 1000000
set_option maxHeartbeats 8000000
namespace Go.Proofs.YtkfimdpcadbcpaaGreatDoor
section
open Go.RowKit Go.Extern.Stop Go.Stop Go.Extern
theorem zLo {w : World} (k s h l p seed esi : Nat) (H : OfP k s h l p) (hk1 : 1 ≤ k) (hk2 : k ≤ 128) (hs : seed < 65536) (he : esi < 65536) (hT : DgTab w) :
    Calls Tryz.prog 155 #[parV k s h l p, .int .i64 (seed : Int), .int .i64 (esi : Int)] w fun e w' => ∃ a c, e = .returned (.tuple #[.slice a (kOf l) c, .nilIface]) ∧ w'.ownsRow w.heap.size 258 1 (.slice a (kOf l) c) (kOf l) ((packR l (rowE l p seed esi)).map wordV) ∧ Below w.heap.size w w' := by
  obtain ⟨b1, b2, b3, b4, b5, b6, b7⟩ := H.bounds hk1 hk2
  obtain ⟨w0, hw0, hb0, hbx⟩ := zAi w k s h l p
  have HW0 := lhd hw0
  have HB0 := lhd hb0
  have HBX := lhd hbx
  have HT := lhd (PairsAt.mono hT hb0)
  obtain ⟨c0, c1, c2, c3, c4⟩ := hbx.cells
  have HR : Hid (∀ V, DgTab V → Calls Tryz.prog 149 #[.agg #[.int .i64 (k : Int), .int .i64 (s : Int), .int .i64 (h : Int), .int .i64 (l : Int), .int .i64 (p : Int)], .int .i64 (seed : Int), .int .i64 (esi : Int)] V fun e w' => ∃ v, e = .returned (.tuple #[v, .nilIface]) ∧ ListAt colV w' v (rowE l p seed esi) ∧ Below V.heap.size V w') := lhd fun V hV => by
    refine (zMd k s h l p seed esi H hk1 hk2 hs he hV).mono ?_
    rintro e w' ⟨v, W, rfl, h1, h2, h3⟩
    refine ⟨v, rfl, ?_, h3⟩
    unfold rowE
    rw [zEk h1]
    exact h2.back
  have HN : Hid ((∀ c ∈ rowE l p seed esi, c < l) ∧ (rowE l p seed esi).Nodup) := lhd ⟨zCr, zHH _ _ _ _⟩
  have hls : l ≤ 4096 := by omega
  clear hw0 hb0 hbx H hT b1 b2 b3 b4 b5 b6 b7 hk1 hk2 hs he
  generalize rowE l p seed esi = R at *
  unfold parV parC
  go_enter Tryz.func155, Tryz.ntmps155
  go_upto_region 1 with fail
  rw [← HW0.out]
  go_wp2_with fail
  refine (HR.out _ HT.out).mono ?_
  rintro e w1 ⟨v, rfl, hv, hb1⟩
  have HB1 := lhd (HB0.out.trans (hb1.mono HB0.out.size))
  have HPK := lhd (zGE v R l hv hls HN.out.1 HN.out.2)
  clear c0 c1 c2 c3 c4
  obtain ⟨c0, c1, c2, c3, c4⟩ := (HBX.out.mono hb1).cells
  have hsz := HB1.out.size
  clear hv hb1
  go_wp2_with fail
  refine HPK.out.mono ?_
  rintro e w2 ⟨rfl, ho, hb2⟩
  have HO := lhd ho
  have HB2 := lhd (HB1.out.trans (hb2.mono hsz))
  clear ho hb2
  go_wp2
  go_ret2
  exact ⟨_, _, rfl, zAd HO.out hsz, HB2.out⟩
end

section
open Go.RowKit Go.Extern.Stop Go.Stop Go.Extern
def rsC (S : Snd) (L : Value) (t : Nat) : Array Value := #[.int .i64 (S.ses : Int), .int .i64 (S.g : Int), .int .i64 (S.n : Int), .int .i64 (S.b : Int), .int .i64 (S.k : Int), .int .i64 (S.base : Int), .int .i64 (S.burst : Int), .int .i64 (S.every : Int),
  .int .i64 (S.size : Int), .int .i64 (S.b : Int), .int .i64 (S.blocks : Int), .int .i64 (S.long : Int), .int .i64 (S.short : Int), L, .int .i64 (t : Int)]
structure RsCells (W : World) (g : Nat) (S : Snd) (L : Value) (t : Nat) : Prop where
  c0 : W.cell? ⟨g, 0, none⟩ = some (.int .i64 (S.ses : Int))
  c1 : W.cell? ⟨g, 1, none⟩ = some (.int .i64 (S.g : Int))
  c2 : W.cell? ⟨g, 2, none⟩ = some (.int .i64 (S.n : Int))
  c3 : W.cell? ⟨g, 3, none⟩ = some (.int .i64 (S.b : Int))
  c4 : W.cell? ⟨g, 4, none⟩ = some (.int .i64 (S.k : Int))
  c5 : W.cell? ⟨g, 5, none⟩ = some (.int .i64 (S.base : Int))
  c6 : W.cell? ⟨g, 6, none⟩ = some (.int .i64 (S.burst : Int))
  c7 : W.cell? ⟨g, 7, none⟩ = some (.int .i64 (S.every : Int))
  c13 : W.cell? ⟨g, 13, none⟩ = some L
  c14 : W.cell? ⟨g, 14, none⟩ = some (.int .i64 (t : Int))
section
variable {W W' : World} {g : Nat} {S : Snd} {L : Value} {t : Nat}
end
end

section
open Go.RowKit Go.Extern.Stop Go.Stop Go.Extern
def stV (n : Nat) : Value := .int .u32 (n : Int)
end

section
def flatP (s : Snd) (t K : Nat) : List Pkt := (List.range K).flatMap (layP s t)
theorem zBA (s : Snd) (t K : Nat) : flatP s t (K + 1) = flatP s t K ++ layP s t K := by
  unfold flatP
  rw [List.range_succ, List.flatMap_append]
  simp
theorem zJj (s : Snd) (t : Nat) : (t % s.every = 0 ∧ annL s t = [annP s t]) ∨ (t % s.every ≠ 0 ∧ annL s t = []) := by
  unfold annL
  by_cases h : t % s.every = 0
  · exact .inl ⟨h, if_pos h⟩
  · exact .inr ⟨h, if_neg h⟩
end

section
open Go.RowKit Go.Extern.Stop Go.Stop Go.Extern
theorem zEl {α : Type} {L : List α} {j : Nat} {x : α} (h : L[j]? = some x) : L.take (j + 1) = L.take j ++ [x] := by
  rw [List.take_add_one, h]
  rfl
theorem zKz {S : Snd} {e i : Nat} (h : i < S.blocks) : (blkL S e)[i]? = some (e, i) := by
  unfold blkL
  rw [List.getElem?_map, List.getElem?_range h]
  rfl
theorem zKI (S : Snd) {E : List Nat} {j e : Nat} (h : E[j]? = some e) : esiL S (E.take (j + 1)) = esiL S (E.take j) ++ blkL S e := by
  rw [zEl h]
  unfold esiL
  rw [List.flatMap_append]
  simp
theorem zMR {S : Snd} {t x : Nat} (h : x ∈ rowS S t) : x < 4294967296 := by
  unfold rowS rowZ at h
  split at h
  · rcases List.mem_cons.1 h with rfl | h
    · exact Nat.mod_lt _ (by decide)
    · rw [List.mem_singleton.1 h]; exact Nat.mod_lt _ (by decide)
  · rw [List.mem_singleton.1 h]; exact Nat.mod_lt _ (by decide)
end

section
open Go.RowKit Go.Extern.Stop Go.Stop Go.Extern
theorem Word.set {ws : List Nat} (h : Word ws) (k x : Nat) (hx : x < 18446744073709551616) : Word (ws.set k x) := by
  intro y hy
  rcases List.mem_or_eq_of_mem_set hy with hy | rfl
  · exact h y hy
  · exact hx
end

section
open Go.RowKit Go.Extern.Stop Go.Stop Go.Extern
theorem zIA (x b : Nat) : (((x : Int) / 2 ^ b) == 0) = decide (x / 2 ^ b = 0) := by
  have e : ((x : Int) / 2 ^ b) = ((x / 2 ^ b : Nat) : Int) := by simp
  rw [e]
  by_cases h : x / 2 ^ b = 0
  · rw [h]; rfl
  · rw [decide_eq_false h]
    simp only [beq_eq_false_iff_ne, ne_eq]
    omega
theorem zGh {w : World} (v : Value) (r : List Nat) (n : Nat) (h : ListAt wordV w v r) (hw : Word r) (hn : n ≤ 4096) :
    Calls Tryz.prog 183 #[v, .int .i64 (n : Int)] w fun e w' => e = .returned (.bool (wholeB n r)) ∧ w = w' := by
  have hlen := h.len
  have HS := lhd (zGG hn)
  have hK := zEI hn
  obtain ⟨a, cap, rfl, hcap, -, hcell⟩ := h
  by_cases hl : r.length = kOf n
  · have hwl := zHy hw hl
    by_cases h0 : n % 64 = 0
    · have HR : Hid (wholeB n r = true) := lhd (by rw [hwl, decide_eq_true h0]; rfl)
      have hb : ((r.length : Int) == (kOf n : Int)) = true := by simp; omega
      have hb2 : ((r.length : Int) != (kOf n : Int)) = false := by simp; omega
      have hm : ((n : Int) % 64 == 0) = true := by simp; omega
      clear hcell hw hwl hl h0
      generalize wholeB n r = R at *
      generalize kOf n = K at *
      go_enter Tryz.func183, Tryz.ntmps183
      go_wp2_with fail
      refine (zB6 (n : Int) (by omega)).mono ?_
      rintro e w1 ⟨rfl, rfl⟩
      rw [HS.out]
      go_wp2
      go_ret
      exact ⟨by rw [HR.out]; rfl, rfl⟩
    · have hlt : n / 64 < r.length := by unfold kOf at hl; omega
      obtain ⟨b, off, rfl, hc⟩ := hcell (by omega)
      have hx := hc (n / 64) hlt
      have e : r[n / 64] = r.getD (n / 64) 0 := by simp [hlt]
      rw [e] at hx
      have hxlt := hw.getD (n / 64)
      have HR : Hid (wholeB n r = decide (r.getD (n / 64) 0 / 2 ^ (n % 64) = 0)) := lhd (by rw [hwl, decide_eq_false h0]; rfl)
      have hb : ((r.length : Int) == (kOf n : Int)) = true := by simp; omega
      have hb2 : ((r.length : Int) != (kOf n : Int)) = false := by simp; omega
      have hm : ((n : Int) % 64 == 0) = false := by simp; omega
      have hlt2 : (n : Int) / 64 < (r.length : Int) := by omega
      have hy : w.cell? ⟨b, off + n / 64, none⟩ = some (.int .u64 ((r.getD (n / 64) 0 : Nat) : Int)) := hx
      clear hcell hw hwl h0 hx hc e
      generalize r.getD (n / 64) 0 = x at *
      have hz := zIA x (n % 64)
      generalize hd : decide (x / 2 ^ (n % 64) = 0) = D at *
      clear hd
      generalize wholeB n r = R at *
      generalize kOf n = K at *
      clear hl
      cases D with
      | true =>
        go_enter Tryz.func183, Tryz.ntmps183
        go_wp2_with fail
        refine (zB6 (n : Int) (by omega)).mono ?_
        rintro e w1 ⟨rfl, rfl⟩
        rw [HS.out]
        go_wp2
        go_ret
        exact ⟨by rw [HR.out]; rfl, rfl⟩
      | false =>
        go_enter Tryz.func183, Tryz.ntmps183
        go_wp2_with fail
        refine (zB6 (n : Int) (by omega)).mono ?_
        rintro e w1 ⟨rfl, rfl⟩
        rw [HS.out]
        go_wp2
        go_ret
        exact ⟨by rw [HR.out]; rfl, rfl⟩
  · have HR := lhd (zHC hl)
    have hb : ((r.length : Int) == (kOf n : Int)) = false := by simp; omega
    have hb2 : ((r.length : Int) != (kOf n : Int)) = true := by simp; omega
    clear hl hcell hw
    generalize wholeB n r = R at *
    generalize kOf n = K at *
    go_enter Tryz.func183, Tryz.ntmps183
    go_wp2_with fail
    refine (zB6 (n : Int) (by omega)).mono ?_
    rintro e w1 ⟨rfl, rfl⟩
    rw [HS.out]
    go_wp2
    go_ret
    exact ⟨by rw [HR.out]; rfl, rfl⟩
theorem zHZ {w : World} (v : Value) (r : List Nat) (h : ListAt wordV w v r) (hl : r.length ≤ 100000) :
    Calls Tryz.prog 186 #[v] w fun e w' => ∃ v', e = .returned v' ∧ w'.ownsRow w.heap.size 258 1 v' r.length (r.map wordV) ∧ (v = nilS → v' = nilS) ∧ Below w.heap.size w w' := by
  obtain ⟨i0, hi, hz0, hz1, hz2⟩ := info_parts zGY
  have HL := lhd h
  obtain ⟨a, cap, rfl, -, -, hc⟩ := h
  cases a with
  | none =>
    have hr : r = [] := by
      apply List.eq_nil_of_length_eq_zero
      apply Nat.eq_zero_of_not_pos
      intro hp
      obtain ⟨b, off, e, _⟩ := hc hp
      cases e
    subst hr
    clear hc
    have hq : (binOp .eql 217 (.slice none 0 cap) (.slice none 0 0)).run Tryz.prog w = .ok (.bool true) w := Lib.run_eql_slice_nil w 217 258 none 0 cap 0 0 Tryz.underlying217
    go_enter Tryz.func186, Tryz.ntmps186
    go_wp2
    go_ret
    exact ⟨_, rfl, World.ownsRow_nil _ _ _ _, fun _ => rfl, Below.refl _ _⟩
  | some ad =>
    clear hc
    have HB0 := lhd ((Below.refl w.heap.size w).alloc (Nat.le_refl _) (.cells #[] 258))
    have HO0 := lhd (World.ownsRow_made (base := w.heap.size) (e := 258) (size := 1) w #[] 0 (Nat.le_refl _) (by decide) rfl)
    have HLA := lhd (HL.out.mono HB0.out)
    have hq : (binOp .eql 217 (.slice (some ad) r.length cap) (.slice none 0 0)).run Tryz.prog w = .ok (.bool false) w := Lib.run_eql_slice_nil w 217 258 (some ad) r.length cap 0 0 Tryz.underlying217
    go_enter Tryz.func186, Tryz.ntmps186
    go_wp2_with (at_builtin; refine zAB (f := wordV) _ rfl (.tmp 5) (.tmp 6) 217 rfl w.heap.size 258 i0 (.int .u64 0) 8 Tryz.underlying217 hi hz0 hz1 hz2 rfl _ 0 [] rfl HO0.out _ r rfl HLA.out (fun y _ => rfl) (by unfold maxLen; omega) (by omega) (by simp) ?_; intro o w1 hown1 hgrow1; have hb1 := lhd (HB0.out.grown hgrow1 (by simp) (fun k hk => (HO0.out.lt k hk).1)); rw [Nat.zero_add, List.nil_append] at hown1; have ho1 := lhd hown1; clear hown1 hgrow1)
    go_ret
    exact ⟨_, rfl, ho1.out, (by intro h; cases h), hb1.out⟩
theorem zHF {w : World} (v : Value) (r : List Nat) (h : ListAt byteV w v r) (hl : r.length ≤ 100000) :
    Calls Tryz.prog 187 #[v] w fun e w' => ∃ v', e = .returned v' ∧ w'.ownsRow w.heap.size 5 1 v' r.length (r.map byteV) ∧ (v = nilS → v' = nilS) ∧ Below w.heap.size w w' := by
  obtain ⟨i0, hi, hz0, hz1, hz2⟩ := info_parts zAY
  have HL := lhd h
  obtain ⟨a, cap, rfl, -, -, hc⟩ := h
  cases a with
  | none =>
    have hr : r = [] := by
      apply List.eq_nil_of_length_eq_zero
      apply Nat.eq_zero_of_not_pos
      intro hp
      obtain ⟨b, off, e, _⟩ := hc hp
      cases e
    subst hr
    clear hc
    have hq : (binOp .eql 31 (.slice none 0 cap) (.slice none 0 0)).run Tryz.prog w = .ok (.bool true) w := Lib.run_eql_slice_nil w 31 5 none 0 cap 0 0 Tryz.underlying31
    go_enter Tryz.func187, Tryz.ntmps187
    go_wp2
    go_ret
    exact ⟨_, rfl, World.ownsRow_nil _ _ _ _, fun _ => rfl, Below.refl _ _⟩
  | some ad =>
    clear hc
    have HB0 := lhd ((Below.refl w.heap.size w).alloc (Nat.le_refl _) (.cells #[] 5))
    have HO0 := lhd (World.ownsRow_made (base := w.heap.size) (e := 5) (size := 1) w #[] 0 (Nat.le_refl _) (by decide) rfl)
    have HLA := lhd (HL.out.mono HB0.out)
    have hq : (binOp .eql 31 (.slice (some ad) r.length cap) (.slice none 0 0)).run Tryz.prog w = .ok (.bool false) w := Lib.run_eql_slice_nil w 31 5 (some ad) r.length cap 0 0 Tryz.underlying31
    go_enter Tryz.func187, Tryz.ntmps187
    go_wp2_with (at_builtin; refine zAB (f := byteV) _ rfl (.tmp 5) (.tmp 6) 31 rfl w.heap.size 5 i0 (.int .u8 0) 1 Tryz.underlying31 hi hz0 hz1 hz2 rfl _ 0 [] rfl HO0.out _ r rfl HLA.out (fun y _ => rfl) (by unfold maxLen; omega) (by omega) (by simp) ?_; intro o w1 hown1 hgrow1; have hb1 := lhd (HB0.out.grown hgrow1 (by simp) (fun k hk => (HO0.out.lt k hk).1)); rw [Nat.zero_add, List.nil_append] at hown1; have ho1 := lhd hown1; clear hown1 hgrow1)
    go_ret
    exact ⟨_, rfl, ho1.out, (by intro h; cases h), hb1.out⟩
abbrev sysP (b : Nat) : Value := .pointer (some ⟨b, 0, none⟩)
theorem zEC {w : World} (b : Nat) (cl : Bool) (h : w.cell? ⟨b, 4, none⟩ = some (.bool cl)) : Calls Tryz.prog 157 #[sysP b] w fun e w' => e = .returned (.bool cl) ∧ w = w' := by
  go_enter Tryz.func157, Tryz.ntmps157
  go_wp2
  go_ret
  exact ⟨rfl, rfl⟩
theorem zBG {w : World} (n : Nat) : Below w.heap.size w (w.drewN n) := zDe (Below.refl _ _) n
theorem zGc {w : World} (b n r : Nat) (cl : Bool) (h0 : w.cell? ⟨b, 0, none⟩ = some (.int .i64 (n : Int))) (h3 : w.cell? ⟨b, 3, none⟩ = some (.int .i64 (r : Int))) (h4 : w.cell? ⟨b, 4, none⟩ = some (.bool cl)) :
    Calls Tryz.prog 158 #[sysP b] w fun e w' => e = .returned (.bool (!cl && decide (r = n))) ∧ Below w.heap.size w w' := by
  have HCall : Hid (∀ nd, Calls Tryz.prog 157 #[sysP b] (w.drewN nd) fun e w' => e = .returned (.bool cl) ∧ w' = w.drewN nd) := lhd fun nd => (zEC b cl (((zBG nd).cell (p := ⟨b, 4, none⟩) (World.block_lt_of_cell? w _ h4)).trans h4)).mono (by rintro e w' ⟨rfl, rfl⟩; exact ⟨rfl, rfl⟩)
  have he : ((r : Int) == (n : Int)) = decide (r = n) := by
    by_cases e : r = n
    · simp [e]
    · rw [decide_eq_false e]; simp; omega
  have HE := lhd he
  cases cl with
  | true =>
    clear he
    go_enter Tryz.func158, Tryz.ntmps158
    go_wp2_with fail
    go_quiet (exact Calls.quiet_of_same (HCall.out _))
    go_wp2
    go_ret
    exact ⟨rfl, zBG _⟩
  | false =>
    generalize decide (r = n) = D at *
    go_enter Tryz.func158, Tryz.ntmps158
    go_wp2_with fail
    go_quiet (exact Calls.quiet_of_same (HCall.out _))
    go_wp2
    go_ret
    exact ⟨by simp, zBG _⟩
theorem zMQ (w : World) (r s : Value) : ∃ w0, w0 = (w.alloc (.cells #[r, s] 244)).alloc (.cells #[nilS, nilS] 244) ∧ Below w.heap.size w w0 ∧ w0.heap.size = w.heap.size + 2 ∧
    w0.cell? ⟨w.heap.size, 0, none⟩ = some r ∧ w0.cell? ⟨w.heap.size, 1, none⟩ = some s ∧ w0.heap[w.heap.size + 1]? = some (.cells #[nilS, nilS] 244 (0, 0)) := by
  have h1 : (w.alloc (.cells #[r, s] 244)).heap[w.heap.size]? = some (.cells #[r, s] 244 (0, 0)) := heap_alloc_new w _
  have hz : (w.alloc (.cells #[r, s] 244)).heap.size = w.heap.size + 1 := World.size_alloc _ _
  have h2 : ((w.alloc (.cells #[r, s] 244)).alloc (.cells #[nilS, nilS] 244)).heap[w.heap.size]? = some (.cells #[r, s] 244 (0, 0)) := by
    rw [Below.heap_alloc _ _ _ (by omega)]; exact h1
  refine ⟨_, rfl, ((Below.refl _ _).alloc (Nat.le_refl _) _).alloc (by omega) _, by rw [World.size_alloc, hz], zAa h2 rfl, zAa h2 rfl, ?_⟩
  have := heap_alloc_new (w.alloc (.cells #[r, s] 244)) (.cells #[nilS, nilS] 244)
  rwa [hz] at this
theorem zDr {w : World} (vr vs : Value) (r s : List Nat) (h1 : ListAt wordV w vr r) (h2 : ListAt byteV w vs s) (hl : r.length ≤ 100000) (hl2 : s.length ≤ 100000) :
    Calls Tryz.prog 154 #[.agg #[vr, vs]] w fun e w' => ∃ v1 v2, e = .returned (.agg #[v1, v2]) ∧ w'.ownsRow w.heap.size 258 1 v1 r.length (r.map wordV) ∧ w'.ownsRow w.heap.size 5 1 v2 s.length (s.map byteV) ∧
      (vr = nilS → v1 = nilS) ∧ (vs = nilS → v2 = nilS) ∧ Below w.heap.size w w' := by
  obtain ⟨w0, hw0, hb0, hs0, hc1, hc2, hres⟩ := zMQ w vr vs
  have HB0 := lhd hb0
  have HW0 := lhd hw0
  have HRES := lhd hres
  have HR := lhd (h1.mono hb0)
  have HS := lhd (h2.mono hb0)
  clear hb0 hw0 hres h1 h2
  have hbd : Below w0.heap.size w0 w0.drew := (Below.refl _ _).drew
  have HRD := lhd (HR.out.mono hbd)
  have HSD := lhd (HS.out.mono hbd)
  have HC2 : Hid (w0.drew.cell? ⟨w.heap.size, 1, none⟩ = some vs) := lhd hc2
  have HRESD : Hid (w0.drew.heap[w.heap.size + 1]? = some (.cells #[nilS, nilS] 244 (0, 0))) := lhd HRES.out
  have HBD := lhd HB0.out.drew
  have hsz : w0.drew.heap.size = w.heap.size + 2 := hs0
  clear hbd
  go_enter Tryz.func154, Tryz.ntmps154
  go_wp2_with fail
  rw [← HW0.out]
  go_region_law (first
    | (go_simp; go_at_call 186; refine (zHZ _ r HRD.out hl).mono ?_; rintro e wA ⟨vA, rfl, hoA, hnA, hbA⟩; have hcA : wA.cell? ⟨w.heap.size, 1, none⟩ = some vs := (hbA.cell (p := ⟨w.heap.size, 1, none⟩) (show w.heap.size < w0.drew.heap.size by omega)).trans HC2.out; have HRESA := lhd ((hbA.block (w.heap.size + 1) (by omega)).trans HRESD.out); have HOA := lhd (zAd hoA (show w.heap.size ≤ w0.drew.heap.size by omega)); have HSA := lhd (HSD.out.mono hbA); have HBA := lhd (HBD.out.trans (hbA.mono (by omega))); have hszA : w.heap.size + 2 ≤ wA.heap.size := (by have := hbA.size; omega); have HNA := lhd hnA; obtain ⟨aA, cA, rfl, -, -⟩ := zAe hoA; clear hoA hnA hbA)
    | (go_simp; go_at_call 187; refine (zHF _ s HSA.out hl2).mono ?_; rintro e wB ⟨vB, rfl, hoB, hnB, hbB⟩; have hRB := (hbB.block (w.heap.size + 1) (by omega)).trans HRESA.out; have HRB := lhd hRB; have hcB0 := zAa (j := 0) (u := nilS) hRB rfl; have hcB1 := zAa (j := 1) (u := nilS) hRB rfl; have hfB0 := zAb (j := 0) hRB; have hfB1 := zAb (j := 1) hRB; have HOB := lhd hoB; have HOA2 := lhd (zAh HOA.out hbB); have HNB := lhd hnB; have HBB := lhd (HBA.out.trans (hbB.mono (by omega))); obtain ⟨aB, cB, rfl, -, -⟩ := zAe hoB; clear hoB hnB hbB hRB))
  all_goals
    have HRES1 := lhd (zAc (j := 1) (u := .slice aB s.length cB) (zAc (j := 0) (u := .slice aA r.length cA) HRB.out))
    have HO1 := lhd (zAJ (zAJ HOA2.out HRB.out (by decide) 0 (.slice aA r.length cA)) (zAc (j := 0) (u := .slice aA r.length cA) HRB.out) (by decide) 1 (.slice aB s.length cB))
    have HO2 := lhd (zAJ (zAJ (zAd HOB.out (show w.heap.size ≤ wA.heap.size by omega)) HRB.out (by decide) 0 (.slice aA r.length cA)) (zAc (j := 0) (u := .slice aA r.length cA) HRB.out) (by decide) 1 (.slice aB s.length cB))
    have HBF := lhd ((HBB.out.setCell (p := ⟨w.heap.size + 1, 0, none⟩) (Nat.le_succ _) (.slice aA r.length cA)).setCell (p := ⟨w.heap.size + 1, 1, none⟩) (Nat.le_succ _) (.slice aB s.length cB))
    go_wp2
    refine bodyPost_ret (results_cell_row rfl _ _ (w.heap.size + 1) 244 _ (0, 0) _ rfl HRES1.out Tryz.underlying244 rfl (by kernel_rfl)) rfl ?_
    exact ⟨_, _, rfl, HO1.out, HO2.out, HNA.out, HNB.out, HBF.out⟩
end

section
open Go.RowKit Go.Extern.Stop Go.Stop Go.Extern
theorem zKy (w : World) (r s r2 s2 : Value) : ∃ wz, wz = (w.alloc (.cells #[r, s] 244)).alloc (.cells #[r2, s2] 244) ∧ Below w.heap.size w wz ∧ wz.heap.size = w.heap.size + 2 ∧
    wz.cell? ⟨w.heap.size, 0, none⟩ = some r ∧ wz.cell? ⟨w.heap.size, 1, none⟩ = some s ∧ wz.cell? ⟨w.heap.size + 1, 0, none⟩ = some r2 ∧ wz.cell? ⟨w.heap.size + 1, 1, none⟩ = some s2 := by
  have h1 : (w.alloc (.cells #[r, s] 244)).heap[w.heap.size]? = some (.cells #[r, s] 244 (0, 0)) := heap_alloc_new w _
  have hz : (w.alloc (.cells #[r, s] 244)).heap.size = w.heap.size + 1 := World.size_alloc _ _
  have h2 : ((w.alloc (.cells #[r, s] 244)).alloc (.cells #[r2, s2] 244)).heap[w.heap.size]? = some (.cells #[r, s] 244 (0, 0)) := by
    rw [Below.heap_alloc _ _ _ (by omega)]; exact h1
  have h3 := heap_alloc_new (w.alloc (.cells #[r, s] 244)) (.cells #[r2, s2] 244)
  rw [hz] at h3
  exact ⟨_, rfl, ((Below.refl _ _).alloc (Nat.le_refl _) _).alloc (by omega) _, by rw [World.size_alloc, hz], zAa h2 rfl, zAa h2 rfl, zAa h3 rfl, zAa h3 rfl⟩
theorem zEY {w : World} {e e' : TypeId} {g g' n n' c c' B B' : Nat} {xs xs' : List Value} (h : w.ownsRow B e 1 (.slice (some ⟨g, 0, none⟩) n c) n xs) (h' : w.ownsRow B' e' 1 (.slice (some ⟨g', 0, none⟩) n' c') n' xs') (hne : e ≠ e') : g ≠ g' := by
  rintro rfl
  rcases h.2 with ⟨h1, _⟩ | ⟨b, cap, cur, h1, h2, h3, _⟩
  · cases h1
  · rcases h'.2 with ⟨k1, _⟩ | ⟨b', cap', cur', k1, k2, k3, _⟩
    · cases k1
    · have e1 : g = b := by simpa [Value.ownBlock] using congrArg Value.ownBlock h1
      have e2 : g = b' := by simpa [Value.ownBlock] using congrArg Value.ownBlock k1
      subst e1
      subst e2
      rw [h3] at k3
      simp at k3
      exact hne k3.2
theorem ListAt.wordsN {w : World} {v : Value} {l : List Nat} (h : ListAt wordV w v l) (n : Nat) (hn : l.length = n) :
    ∃ a cap, v = .slice a n cap ∧ n ≤ cap ∧ cap ≤ maxLen ∧ (0 < n → ∃ b off, a = some ⟨b, off, none⟩ ∧ ∀ j, j < n → w.cell? ⟨b, off + j, none⟩ = some (.int .u64 ((l.getD j 0 : Nat) : Int))) := by
  subst hn
  obtain ⟨a, cap, rfl, hc, hm, h⟩ := h
  refine ⟨a, cap, rfl, hc, hm, fun hp => ?_⟩
  obtain ⟨b, off, rfl, hcell⟩ := h hp
  refine ⟨b, off, rfl, fun j hj => ?_⟩
  rw [hcell j hj, List.getD_eq_getElem?_getD, List.getElem?_eq_getElem hj]
  rfl
theorem zJ7 {w0 w : World} (g1 c1 g2 c2 K S : Nat) (r s r2 s2 : List Nat) (v1 v2 : Value) (hb : Below w0.heap.size w0 w)
    (hr : w.ownsRow w0.heap.size 258 1 (.slice (some ⟨g1, 0, none⟩) K c1) K (r.map wordV)) (hs : w.ownsRow w0.heap.size 5 1 (.slice (some ⟨g2, 0, none⟩) S c2) S (s.map byteV))
    (h1 : ListAt wordV w0 v1 r2) (h2 : ListAt byteV w0 v2 s2) (hrl : r.length = K) (hsl : s.length = S) (hr2l : r2.length = K) (hs2l : s2.length = S) (hrw : Word r) (hsw : Octets s) (hr2w : Word r2) (hs2w : Octets s2) (hK : K ≤ 100000) (hS : S ≤ 100000) :
    Calls Tryz.prog 213 #[.agg #[.slice (some ⟨g1, 0, none⟩) K c1, .slice (some ⟨g2, 0, none⟩) S c2], .agg #[v1, v2]] w fun e w' => e = .returned (.tuple #[]) ∧
      w'.ownsRow w0.heap.size 258 1 (.slice (some ⟨g1, 0, none⟩) K c1) K ((xorW r r2).map wordV) ∧ w'.ownsRow w0.heap.size 5 1 (.slice (some ⟨g2, 0, none⟩) S c2) S ((xorW s s2).map byteV) ∧ Below w0.heap.size w0 w' ∧ (∀ k, k < w.heap.size → k ≠ g1 → k ≠ g2 → w'.heap[k]? = w.heap[k]?) := by
  have HNE := lhd (zEY hr hs (by decide))
  have hl1 := hr.lt g1 rfl
  have hl2 := hs.lt g2 rfl
  have HGE1 : Hid (w.heap.size ≠ g1) := lhd (by omega)
  have HGE2 : Hid (w.heap.size ≠ g2) := lhd (by omega)
  have HGF1 : Hid (w.heap.size + 1 ≠ g1) := lhd (by omega)
  obtain ⟨wz, hwz, hbz, hzs, he0, he1, hf0, hf1⟩ := zKy w (.slice (some ⟨g1, 0, none⟩) K c1) (.slice (some ⟨g2, 0, none⟩) S c2) v1 v2
  obtain ⟨a1, cp1, rfl, hcp1, -, hcell1⟩ := h1.wordsN K hr2l
  obtain ⟨a2, cp2, rfl, hcp2, -, hcell2⟩ := h2.bytes S hs2l
  have HBA := lhd (hb.trans (hbz.mono hb.size))
  have HC1 : Hid (0 < K → ∃ b off, a1 = some ⟨b, off, none⟩ ∧ ∀ j, j < K → wz.cell? ⟨b, off + j, none⟩ = some (.int .u64 ((r2.getD j 0 : Nat) : Int)) ∧ b ≠ g1) := lhd fun hp => by
    obtain ⟨b, off, e, hc⟩ := hcell1 (by omega)
    refine ⟨b, off, e, fun j hj => ?_⟩
    have hx := hc j (by omega)
    have hlt : b < w0.heap.size := World.block_lt_of_cell? w0 _ hx
    refine ⟨((hb.trans (hbz.mono hb.size)).cell (p := ⟨b, off + j, none⟩) hlt).trans hx, ?_⟩
    omega
  have HC2 : Hid (0 < S → ∃ b off, a2 = some ⟨b, off, none⟩ ∧ ∀ j, j < S → b ≠ g1 ∧ b ≠ g2 ∧ wz.cell? ⟨b, off + j, none⟩ = some (.int .u8 ((s2.getD j 0 : Nat) : Int))) := lhd fun hp => by
    obtain ⟨b, off, e, hc⟩ := hcell2 (by omega)
    refine ⟨b, off, e, fun j hj => ?_⟩
    have hx := hc j (by omega)
    have hlt : b < w0.heap.size := World.block_lt_of_cell? w0 _ hx
    exact ⟨by omega, by omega, ((hb.trans (hbz.mono hb.size)).cell (p := ⟨b, off + j, none⟩) hlt).trans hx⟩
  have HOR := lhd (zAh hr hbz)
  have HOS := lhd (zAh hs hbz)
  have HE0 := lhd he0
  have HE1Z := lhd he1
  have HF1Z := lhd hf1
  have HRL := lhd hrl
  have HR2L := lhd hr2l
  have HRW := lhd hrw
  have HR2W := lhd hr2w
  have HSL := lhd hsl
  have HS2L := lhd hs2l
  have HSW := lhd hsw
  have HS2W := lhd hs2w
  have HWZ := lhd hwz
  have HBZ := lhd hbz
  clear hwz hbz hb hr hs h1 hcell1 hcell2 hrl hr2l hrw hr2w hsl hs2l hsw hs2w hl1 hl2 h2
  go_enter Tryz.func213, Tryz.ntmps213
  go_wp2_with fail
  rw [← HWZ.out]
  go_wp2
  go_loopw [11] (fun q wr => ∃ k : Nat, k ≤ K ∧ q = .int .i64 k ∧ (∃ zs : List Nat, zs.length = K ∧ Word zs ∧ (∀ j, j < K → zs.getD j 0 = if j < k then r.getD j 0 ^^^ r2.getD j 0 else r.getD j 0) ∧ wr.ownsRow w0.heap.size 258 1 (.slice (some ⟨g1, 0, none⟩) K c1) K (zs.map wordV)) ∧ wz.grownBy wr (some g1)) (fun q _ => K - (intOf q).toNat)
  case atStart => exact ⟨0, Nat.zero_le _, rfl, ⟨r, HRL.out, HRW.out, fun j _ => by simp, HOR.out⟩, World.grownBy.refl _ _⟩
  case round =>
    obtain ⟨k, hk, rfl, ⟨zs, hzl, hzw, hzv, hown⟩, hgr⟩ := hrel
    by_cases hlt : k < K
    · obtain ⟨b, off, rfl, hcc⟩ := HC1.out (by omega)
      have hb1 : wr.cell? ⟨w.heap.size, 0, none⟩ = some (.slice (some ⟨g1, 0, none⟩) K c1) := hgr.cell HE0.out (by intro e; exact HGE1.out (by simpa using e))
      have hy1 : wr.cell? ⟨b, off + k, none⟩ = some (.int .u64 ((r2.getD k 0 : Nat) : Int)) := hgr.cell (hcc k hlt).1 (by intro e; exact (hcc k hlt).2 (by simpa using e))
      have hx1 : wr.cell? ⟨g1, k, none⟩ = some (.int .u64 ((r.getD k 0 : Nat) : Int)) := by
        rw [hown.cellAt k (by omega)]
        have e := hzv k hlt
        rw [if_neg (by omega)] at e
        have : k < zs.length := by omega
        simp only [List.getD_eq_getElem?_getD, List.getElem?_eq_getElem this, Option.getD_some] at e
        simp [this, wordV, e]
      have hf1 : wr.frozen? ⟨g1, k, none⟩ = false := hown.frozenAt k
      have hxlt := HRW.out.getD k
      have hylt := HR2W.out.getD k
      have hlt3 : r.getD k 0 ^^^ r2.getD k 0 < 18446744073709551616 := Nat.xor_lt_two_pow (n := 64) hxlt hylt
      have hbx := bits_xor_u64_nat (r.getD k 0) (r2.getD k 0) hxlt hylt
      have HZ1 : Hid (∀ u, r.getD k 0 ^^^ r2.getD k 0 = u → ∀ j, j < K → (zs.set k u).getD j 0 = if j < k + 1 then r.getD j 0 ^^^ r2.getD j 0 else r.getD j 0) := lhd fun u e j hj => by
        rw [zAU _ _ _ _ _ (by omega)]
        by_cases e1 : j = k
        · subst e1; rw [if_pos rfl, if_pos (by omega), e]
        · rw [if_neg e1, hzv j hj]
          by_cases e2 : j < k
          · rw [if_pos e2, if_pos (by omega)]
          · rw [if_neg e2, if_neg (by omega)]
      have HOW := lhd hown
      have HG := lhd hgr
      have HZL := lhd hzl
      have HZW := lhd hzw
      have HL3 := lhd hlt3
      clear hown hgr hzl hzw hzv hxlt hylt hlt3 hcc
      generalize r.getD k 0 = X at *
      generalize r2.getD k 0 = Y at *
      go_wp2
      go_roundw
      case rel => exact ⟨k + 1, by omega, by go_num, ⟨zs.set k (X ^^^ Y), by simpa using HZL.out, HZW.out.set _ _ HL3.out, HZ1.out _ rfl, by rw [List.map_set]; exact (HOW.out.stored k (.int .u64 ((X ^^^ Y : Nat) : Int))).1⟩, zDf HG.out (HOW.out.stored k (.int .u64 ((X ^^^ Y : Nat) : Int))).2⟩
      case measure => simp [intOf]; omega
    · have hk' : k = K := by omega
      have HV : Hid (zs = xorW r r2) := lhd (by
        have hxy : r.length = r2.length := by rw [HRL.out, HR2L.out]
        apply zAT (by rw [zAm hxy, hzl, HRL.out])
        intro j hj
        have e := hzv j (by omega)
        rw [if_pos (by omega), ← zAu hxy] at e
        exact e)
      have HOR2 := lhd hown
      rw [HV.out] at HOR2
      have HGR1 := lhd hgr
      clear hown hgr hzv hzl hzw HV
      obtain ⟨wy, hwy⟩ : ∃ wy, wy = wr := ⟨_, rfl⟩
      subst hwy
      have HE1 : Hid (wy.cell? ⟨w.heap.size, 1, none⟩ = some (.slice (some ⟨g2, 0, none⟩) S c2)) := lhd (HGR1.out.cell HE1Z.out (by intro e; exact HGE1.out (by simpa using e)))
      have hf1y : wy.cell? ⟨w.heap.size + 1, 1, none⟩ = some (.slice a2 S cp2) := HGR1.out.cell HF1Z.out (by intro e; exact HGF1.out (by simpa using e))
      have HOS2 := lhd (HOS.out.kept HGR1.out (.inr (by intro e; exact HNE.out (by simpa [Value.ownBlock] using e.symm))))
      have HC2 : Hid (0 < S → ∃ b off, a2 = some ⟨b, off, none⟩ ∧ ∀ j, j < S → wy.cell? ⟨b, off + j, none⟩ = some (.int .u8 ((s2.getD j 0 : Nat) : Int)) ∧ b ≠ g2) := lhd fun hp => by
        obtain ⟨b, off, e, hc⟩ := HC2.out hp
        refine ⟨b, off, e, fun j hj => ?_⟩
        obtain ⟨q1, q2, q3⟩ := hc j hj
        exact ⟨HGR1.out.cell q3 (by intro e; exact q1 (by simpa using e)), q2⟩
      clear HC1
      go_wp2
      go_loopw [28] (fun q wr => ∃ k : Nat, k ≤ S ∧ q = .int .i64 k ∧ (∃ zs : List Nat, zs.length = S ∧ Octets zs ∧ (∀ j, j < S → zs.getD j 0 = if j < k then s.getD j 0 ^^^ s2.getD j 0 else s.getD j 0) ∧ wr.ownsRow w0.heap.size 5 1 (.slice (some ⟨g2, 0, none⟩) S c2) S (zs.map byteV)) ∧ wy.grownBy wr (some g2)) (fun q _ => S - (intOf q).toNat)
      case atStart => exact ⟨0, Nat.zero_le _, rfl, ⟨s, HSL.out, HSW.out, fun j _ => by simp, HOS2.out⟩, World.grownBy.refl _ _⟩
      case round =>
        obtain ⟨k, hk, rfl, ⟨zs, hzl, hzw, hzv, hown⟩, hgr⟩ := hrel
        by_cases hlt : k < S
        · obtain ⟨b, off, rfl, hcc⟩ := HC2.out (by omega)
          have hb1 : wr.cell? ⟨w.heap.size, 1, none⟩ = some (.slice (some ⟨g2, 0, none⟩) S c2) := hgr.cell HE1.out (by intro e; exact HGE2.out (by simpa using e))
          have hy1 : wr.cell? ⟨b, off + k, none⟩ = some (.int .u8 ((s2.getD k 0 : Nat) : Int)) := hgr.cell (hcc k hlt).1 (by intro e; exact (hcc k hlt).2 (by simpa using e))
          have hx1 : wr.cell? ⟨g2, k, none⟩ = some (.int .u8 ((s.getD k 0 : Nat) : Int)) := by
            rw [hown.cellAt k (by omega)]
            have e := hzv k hlt
            rw [if_neg (by omega)] at e
            have : k < zs.length := by omega
            simp only [List.getD_eq_getElem?_getD, List.getElem?_eq_getElem this, Option.getD_some] at e
            simp [this, byteV, e]
          have hf1 : wr.frozen? ⟨g2, k, none⟩ = false := hown.frozenAt k
          have hxlt := HSW.out.getD k
          have hylt := HS2W.out.getD k
          have hlt3 : s.getD k 0 ^^^ s2.getD k 0 < 256 := Nat.xor_lt_two_pow (n := 8) hxlt hylt
          have hbx := zBu (s.getD k 0) (s2.getD k 0) hxlt hylt
          have HZ1 : Hid (∀ u, s.getD k 0 ^^^ s2.getD k 0 = u → ∀ j, j < S → (zs.set k u).getD j 0 = if j < k + 1 then s.getD j 0 ^^^ s2.getD j 0 else s.getD j 0) := lhd fun u e j hj => by
            rw [zAU _ _ _ _ _ (by omega)]
            by_cases e1 : j = k
            · subst e1; rw [if_pos rfl, if_pos (by omega), e]
            · rw [if_neg e1, hzv j hj]
              by_cases e2 : j < k
              · rw [if_pos e2, if_pos (by omega)]
              · rw [if_neg e2, if_neg (by omega)]
          have HOW := lhd hown
          have HG := lhd hgr
          have HZL := lhd hzl
          have HZW := lhd hzw
          have HL3 := lhd hlt3
          clear hown hgr hzl hzw hzv hxlt hylt hlt3 hcc
          generalize s.getD k 0 = X at *
          generalize s2.getD k 0 = Y at *
          go_wp2
          go_roundw
          case rel => exact ⟨k + 1, by omega, by go_num, ⟨zs.set k (X ^^^ Y), by simpa using HZL.out, HZW.out.set _ _ HL3.out, HZ1.out _ rfl, by rw [List.map_set]; exact (HOW.out.stored k (.int .u8 ((X ^^^ Y : Nat) : Int))).1⟩, zDf HG.out (HOW.out.stored k (.int .u8 ((X ^^^ Y : Nat) : Int))).2⟩
          case measure => simp [intOf]; omega
        · have hk' : k = S := by omega
          have HV : Hid (zs = xorW s s2) := lhd (by
            have hxy : s.length = s2.length := by rw [HSL.out, HS2L.out]
            apply zAT (by rw [zAm hxy, hzl, HSL.out])
            intro j hj
            have e := hzv j (by omega)
            rw [if_pos (by omega), ← zAu hxy] at e
            exact e)
          have HOS3 := lhd hown
          rw [HV.out] at HOS3
          have HGR2 := lhd hgr
          clear hown hgr hzv hzl hzw HV
          have HORF := lhd (HOR2.out.kept HGR2.out (.inr (by intro e; exact HNE.out (by simpa [Value.ownBlock] using e))))
          have HBF := lhd ((HBA.out.grown HGR1.out HBA.out.size (fun k e => by cases e; exact (HOR2.out.lt g1 rfl).1)).grown HGR2.out (Nat.le_trans HBA.out.size HGR1.out.size) (fun k e => by cases e; exact (HOS3.out.lt g2 rfl).1))
          go_wp2
          go_end0
          exact ⟨rfl, HORF.out, HOS3.out, HBF.out, fun k hk n1 n2 => ((HGR2.out.block k (by have := HBZ.out.size; have := HGR1.out.size; omega) (by simpa using n2)).trans (HGR1.out.block k (by have := HBZ.out.size; omega) (by simpa using n1))).trans (HBZ.out.block k hk)⟩
end

section
open Go.RowKit Go.Extern.Stop Go.Stop Go.Extern
theorem zHP {y : List Nat} (hy : Word y) {c i : Nat} (h : ∀ d, d < c → bitW y d = false) (hi : 64 * i ≤ c) : ∀ j, j < i → y.getD j 0 = 0 := fun j hj => by
  apply Nat.eq_of_testBit_eq
  intro b
  rw [Nat.zero_testBit]
  by_cases hb : b < 64
  · rw [← zBv y j b hb]; exact h _ (by omega)
  · exact Nat.testBit_lt_two_pow (Nat.lt_of_lt_of_le (hy.getD j) (Nat.pow_le_pow_right (n := 2) (by decide) (show 64 ≤ b by omega)))
theorem zLz {x z : Nat} (hx : x < 18446744073709551616) (hz : z < 64) (h : ∀ b, b ≤ z → x.testBit b = false) : z < Lib.ctz 64 x := by
  by_cases h0 : x = 0
  · subst h0; unfold Lib.ctz; rw [if_pos rfl]; exact hz
  · obtain ⟨h1, h2, h3⟩ := zBj x h0 hx
    apply Nat.lt_of_not_le
    intro hle
    rw [h _ hle] at h2
    cases h2
theorem zMY {x : List Nat} {i : Nat} (hw : Word x) (hz : ∀ j, j < i → x.getD j 0 = 0) (h0 : x.getD i 0 ≠ 0) : Lead (bitW x) (i * 64 + Lib.ctz 64 (x.getD i 0)) := by
  obtain ⟨h1, h2, h3⟩ := zBj _ h0 (hw.getD i)
  refine ⟨by rw [zBv _ _ _ h1]; exact h2, fun d hd => ?_⟩
  by_cases hdi : d / 64 < i
  · unfold bitW; rw [hz _ hdi]; simp
  · have e : d = i * 64 + (d - i * 64) := by omega
    rw [e, zBv _ _ _ (by omega)]
    exact h3 _ (by omega)
theorem zD8 {x : List Nat} (hz : ∀ j, j < x.length → x.getD j 0 = 0) : bitW x = vzero := by
  funext c
  unfold bitW vzero
  by_cases h : c / 64 < x.length
  · rw [hz _ h]; simp
  · rw [List.getD_eq_getElem?_getD, List.getElem?_eq_none (by omega)]; simp
theorem zIO {y s : List Nat} {k : Nat} (hy : Word y) (hs : Word s) (hl : y.length = s.length) (h0 : y.getD k 0 ≠ 0) (hlead : Lead (bitW s) (k * 64 + Lib.ctz 64 (y.getD k 0))) :
    Lib.ctz 64 (y.getD k 0) < Lib.ctz 64 ((xorW y s).getD k 0) := by
  obtain ⟨h1, h2, h3⟩ := zBj _ h0 (hy.getD k)
  rw [zAu hl]
  refine zLz (Nat.xor_lt_two_pow (n := 64) (hy.getD k) (hs.getD k)) h1 fun b hb => ?_
  rw [Nat.testBit_xor]
  by_cases e : b = Lib.ctz 64 (y.getD k 0)
  · have := hlead.1
    rw [zBv _ _ _ h1] at this
    rw [e, h2, this]; rfl
  · have hb' : b < Lib.ctz 64 (y.getD k 0) := by omega
    have := hlead.2 (k * 64 + b) (by omega)
    rw [zBv _ _ _ (by omega)] at this
    rw [h3 b hb', this]; rfl
theorem zDy {y s : List Nat} {k : Nat} (hl : y.length = s.length) (h1 : ∀ j, j < k → y.getD j 0 = 0) (h2 : ∀ j, j < k → s.getD j 0 = 0) : ∀ j, j < k → (xorW y s).getD j 0 = 0 := fun j hj => by
  rw [zAu hl, h1 j hj, h2 j hj]; rfl
end
end Go.Proofs.YtkfimdpcadbcpaaGreatDoor
