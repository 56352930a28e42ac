import Derived.OwnWalk
import Derived.Deep.AppendLies
import Derived.Deep.RegionLaw
import Derived.Laws.AppendOwnNone
import Derived.Test.YtkfimdpcadbcpaaGreatDoorP01
import Derived.Deep.WholeRow
import Derived.Laws.Tables
import Derived.BigQuiet
import Derived.Test.YtkfimdpcadbcpaaGreatDoorChecked
import Derived.WalkKit
import Derived.ProofKit
import Derived.OpenShut
import Derived.Lib.Hide
import Derived.Laws.AppendOwn
import Derived.Laws.OwnMore
import Derived.Laws.MakeOwn
import Derived.Laws.CopyOwn
import Derived.Deep.Cut
import Derived.Deep.RegionHeld3
import Derived.Test.YtkfimdpcadbcpaaGreatDoorA33
set_option linter.unusedSimpArgs false
set_option linter.unusedVariables false
set_option maxRecDepth 1000000
set_option maxHeartbeats 8000000
namespace Go.Proofs.YtkfimdpcadbcpaaGreatDoor
section
open Go.RowKit Go.Extern.Stop Go.Stop Go.Extern
theorem yB2 (j x : Nat) (s : List Nat) : (List.replicate (j + 1) 0 ++ s).set j x = List.replicate j 0 ++ (x :: s) := by
  apply List.ext_getElem?
  intro k
  rw [List.getElem?_set]
  rcases Nat.lt_trichotomy k j with h | h | h
  · rw [if_neg (by omega), List.getElem?_append_left (by simp; omega), List.getElem?_append_left (by simp; omega), List.getElem?_replicate, List.getElem?_replicate, if_pos (by omega), if_pos h]
  · subst h
    rw [if_pos rfl, if_pos (by simp; omega), List.getElem?_append_right (by simp)]
    simp
  · rw [if_neg (by omega), List.getElem?_append_right (by simp; omega), List.getElem?_append_right (by simp; omega)]
    simp only [List.length_replicate]
    rw [show k - j = (k - (j + 1)) + 1 by omega]
    rfl
theorem yA1 {w : World} (n k : Nat) (hn : n ≤ 9223372036854775807) (hk : k ≤ 100) : Calls Tryz.prog 79 #[.int .i64 (n : Int), .int .i64 (k : Int)] w fun e w' =>
    ∃ g, e = .returned (.slice (some ⟨g, 0, none⟩) k k) ∧ w'.ownsRow w.heap.size 5 1 (.slice (some ⟨g, 0, none⟩) k k) k ((beN k n).map byteV) ∧ Below w.heap.size w w' := by
  obtain ⟨j0, hj0, jz0, jz1, jz2⟩ := info_parts zAY
  have hwk : IntKind.i64.wrap ((k : Int) - 1) = (k : Int) - 1 := IntWalk.i64_in _ (by omega)
  have HB0 : Hid (∀ m, beN 0 m = []) := lhd fun m => rfl
  have HBS : Hid (∀ j m, beN (j + 1) m = beN j (m / 256) ++ [m % 256]) := lhd fun j m => rfl
  have HRS := lhd yB2
  go_enter Tryz.func79, Tryz.ntmps79
  go_wp2_with (at_make; refine wpList_make_full _ rfl _ _ 31 rfl w.heap.size 5 j0 (.int .u8 0) 1 Tryz.underlying31 hj0 jz0 jz1 .i64 .i64 _ _ k rfl rfl rfl rfl (by rw [jz2]; omega) (by unfold maxLen; omega) (Nat.le_refl _) ?_; intro w0 hown0 hgrow0; have hb0 := lhd ((Below.refl w.heap.size w).grown hgrow0 (Nat.le_refl _) (fun k hk => by cases hk)); have ho0 := lhd hown0; clear hown0 hgrow0)
  go_loopw [0, 6] (fun x i wr => ∃ (j m : Nat) (s : List Nat), j ≤ k ∧ i = .int .i64 ((j : Int) - 1) ∧ x = .int .i64 (m : Int) ∧ m ≤ 9223372036854775807 ∧ beN k n = beN j m ++ s ∧ wr.ownsRow w.heap.size 5 1 (.slice (some ⟨w.heap.size, 0, none⟩) k k) k ((List.replicate j 0 ++ s).map byteV) ∧ j + s.length = k ∧ Below w.heap.size w wr) (fun _ i _ => (intOf i + 1).toNat)
  case atStart => exact ⟨k, n, [], Nat.le_refl _, rfl, rfl, hn, by simp, by rw [List.append_nil, List.map_replicate]; have := ho0.out; rw [Nat.mul_one] at this; exact toList_madeCells_one (.int .u8 0) k ▸ this, by simp, hb0.out⟩
  case round =>
    obtain ⟨j, m, s, hj, rfl, rfl, hm, hs, hown, hl, hbel⟩ := hrel
    have HS := lhd hs
    have HO := lhd hown
    have HB := lhd hbel
    have HL := lhd hl
    by_cases hj0 : j = 0
    · subst hj0
      have d1 : decide ((0 : Int) ≤ ((0 : Nat) : Int) - 1) = false := by decide
      clear hs hown hbel hl
      go_wp2
      go_ret
      refine ⟨_, rfl, ?_, HB.out⟩
      rw [HS.out, HB0.out]
      exact HO.out
    · obtain ⟨i, rfl⟩ : ∃ i, j = i + 1 := ⟨j - 1, by omega⟩
      have d1 : decide ((0 : Int) ≤ (i : Int)) = true := decide_eq_true (by omega)
      have hi : ((i + 1 : Nat) : Int) - 1 = (i : Int) := by omega
      have hmod : (m : Int) % 256 = ((m % 256 : Nat) : Int) := by omega
      have hmodT : (m : Int).tmod 256 = ((m % 256 : Nat) : Int) := rfl
      have hdiv : (m : Int) / 256 = ((m / 256 : Nat) : Int) := by omega
      have hdivT : (m : Int).tdiv 256 = ((m / 256 : Nat) : Int) := rfl
      have hm2 : m / 256 ≤ 9223372036854775807 := by omega
      have hm3 : m % 256 < 256 := by omega
      have HN : Hid (beN k n = beN i (m / 256) ++ ((m % 256) :: s)) := lhd (by rw [HS.out, HBS.out, List.append_assoc]; rfl)
      have HSET := lhd (HRS.out i (m % 256) s)
      have hlen : ((List.replicate (i + 1) 0 ++ s).map byteV).length = k := by simp; omega
      have hix : i < k := by omega
      obtain ⟨y, hy⟩ : ∃ y, ((List.replicate (i + 1) 0 ++ s).map byteV)[i]? = some y := ⟨_, List.getElem?_eq_getElem (by rw [hlen]; exact hix)⟩
      have q1 : wr.cell? ⟨w.heap.size, i, none⟩ = some y := by
        rw [hown.cellAt i (by omega)]; exact hy
      have f1 : wr.frozen? ⟨w.heap.size, i, none⟩ = false := hown.frozenAt i
      rw [hi]
      clear hs hown hbel hl hy hlen
      generalize m % 256 = b at *
      generalize m / 256 = d at *
      have hcv : IntKind.u8.wrap (b : Int) = (b : Int) := by rw [IntKind.wrap_u8]; omega
      have hcm : (b : Int) % 256 = (b : Int) := by omega
      go_wp2
      go_roundw
      case rel => exact ⟨i, d, b :: s, by omega, by go_num, rfl, hm2, HN.out, by rw [← HSET.out, List.map_set]; exact (HO.out.stored i (.int .u8 b)).1, by have := HL.out; simp; omega, HB.out.setCell (p := ⟨w.heap.size, i, none⟩) (Nat.le_refl _) _⟩
      case measure => simp [intOf]
theorem yBw {w : World} {base g n c : Nat} {e : TypeId} {xs : List Value} (h : w.ownsRow base e 1 (.slice (some ⟨g, 0, none⟩) n c) n xs) (hl : xs.length = n) : ∀ (t : Nat) (u : Value), xs[t]? = some u → w.cell? (Addr.add ⟨g, 0, none⟩ t) = some u := fun t u hu => by
  have ht : t < xs.length := (List.getElem?_eq_some_iff.1 hu).1
  rw [show Addr.add ⟨g, 0, none⟩ t = ⟨g, 0 + t, none⟩ from Go.WideShapes.add_plain .., Nat.zero_add, h.cellAt t (by omega)]
  exact hu
def bytesN (L : List Num4) : List Nat := (L.map fun x => beN x.2.1.toNat x.1.toNat).flatten
theorem yAt (L : List Num4) (j : Nat) (h : j < L.length) : bytesN (L.take (j + 1)) = bytesN (L.take j) ++ beN (L.getD j noNum).2.1.toNat (L.getD j noNum).1.toNat := by
  unfold bytesN
  rw [List.take_add_one, List.getElem?_eq_getElem h, List.map_append, List.flatten_append, List.getD_eq_getElem?_getD, List.getElem?_eq_getElem h]
  simp
def LayL (L : List Num4) : Prop := ∀ x ∈ L, (0 ≤ x.1 ∧ x.1 ≤ 9223372036854775807) ∧ 1 ≤ x.2.1 ∧ x.2.1 ≤ 8
theorem yA6 {L : List Num4} (h : LayL L) {j : Nat} (hj : j < L.length) : (0 ≤ (L.getD j noNum).1 ∧ (L.getD j noNum).1 ≤ 9223372036854775807) ∧ 1 ≤ (L.getD j noNum).2.1 ∧ (L.getD j noNum).2.1 ≤ 8 := by
  rw [List.getD_eq_getElem?_getD, List.getElem?_eq_getElem hj]
  exact h _ (List.getElem_mem hj)
theorem yBu {L : List Num4} (h : LayL L) (j : Nat) : (bytesN (L.take j)).length ≤ 8 * j := by
  induction j with
  | zero => simp [bytesN]
  | succ j ih =>
    by_cases hj : j < L.length
    · rw [yAt L j hj, List.length_append, zBc]
      have := (yA6 h hj).2
      omega
    · rw [List.take_of_length_le (by omega)]
      rw [List.take_of_length_le (by omega)] at ih
      omega
theorem yA5 {w : World} (v : Value) (L : List Num4) (h : NumsAt w v L) (hL : L.length ≤ 100) (hl : LayL L) : Calls Tryz.prog 76 #[v] w fun e w' =>
    ∃ v', e = .returned v' ∧ w'.ownsRow w.heap.size 5 1 v' (bytesN L).length ((bytesN L).map byteV) ∧ Below w.heap.size w w' := by
  obtain ⟨i0, hi0, hz0, hz1, hz2⟩ := info_parts zAY
  obtain ⟨b, rfl, hc⟩ := h
  have HC := lhd hc
  have HOS := lhd (World.ownsRow_made (base := w.heap.size) (e := 5) (size := 1) w #[] 0 (Nat.le_refl _) (by decide) rfl)
  have HBe := lhd ((Below.refl w.heap.size w).alloc (Nat.le_refl _) (.cells #[] 5))
  have HT0 : Hid (bytesN (L.take 0) = []) := lhd rfl
  have HTS : Hid (∀ j, j < L.length → bytesN (L.take (j + 1)) = bytesN (L.take j) ++ beN (L.getD j noNum).2.1.toNat (L.getD j noNum).1.toNat) := lhd (yAt L)
  have HTE : Hid (bytesN (L.take L.length) = bytesN L) := lhd (by rw [List.take_length])
  have HLE : Hid (∀ j, (bytesN (L.take j)).length ≤ 8 * j) := lhd (yBu hl)
  have HLG : Hid (∀ j, j < L.length → (0 ≤ (L.getD j noNum).1 ∧ (L.getD j noNum).1 ≤ 9223372036854775807) ∧ 1 ≤ (L.getD j noNum).2.1 ∧ (L.getD j noNum).2.1 ≤ 8) := lhd fun j hj => yA6 hl hj
  clear hc hl
  go_enter Tryz.func76, Tryz.ntmps76
  go_wp2_with fail
  go_loopw [3, 4] (fun x i wr => ∃ j : Nat, j ≤ L.length ∧ i = .int .i64 (j : Int) ∧ wr.ownsRow w.heap.size 5 1 x (bytesN (L.take j)).length ((bytesN (L.take j)).map byteV) ∧ Below w.heap.size w wr) (fun _ i _ => L.length - (intOf i).toNat)
  case atStart => exact ⟨0, by omega, rfl, by rw [HT0.out]; exact HOS.out, HBe.out⟩
  case round =>
    obtain ⟨j, hj, rfl, hown, hbel⟩ := hrel
    have HB := lhd hbel
    have HO := lhd hown
    by_cases hlt : j < L.length
    · have d1 : decide ((j : Int) < (L.length : Int)) = true := decide_eq_true (by omega)
      obtain ⟨q0, q1, q2, q3⟩ := HC.out j hlt
      have hlb := World.block_lt_of_cell? w _ q0
      have hlb2 : b < w.heap.size := hlb
      obtain ⟨⟨n0, n1⟩, n2, n3⟩ := HLG.out j hlt
      have hst := HTS.out j hlt
      have hle := HLE.out j
      obtain ⟨n, hn⟩ : ∃ n : Nat, (L.getD j noNum).1 = (n : Int) := ⟨(L.getD j noNum).1.toNat, by omega⟩
      obtain ⟨k, hk⟩ : ∃ n : Nat, (L.getD j noNum).2.1 = (n : Int) := ⟨(L.getD j noNum).2.1.toNat, by omega⟩
      rw [hn, hk, Int.toNat_natCast, Int.toNat_natCast] at hst
      have HST := lhd hst
      have HLN : Hid ((beN k n).length = k) := lhd (zBc k n)
      have hk8 : k ≤ 8 := by omega
      have hk1 : 1 ≤ k := by omega
      have hn63 : n ≤ 9223372036854775807 := by omega
      have q0' : w.cell? ⟨b, j * 4, none⟩ = some (.int .i64 (n : Int)) := by rw [q0, hn]
      have q1' : w.cell? ⟨b, j * 4 + 1, none⟩ = some (.int .i64 (k : Int)) := by rw [q1, hk]
      have HCV : Hid (∀ V, Below w.heap.size w V → V.cell? ⟨b, j * 4, none⟩ = some (.int .i64 (n : Int)) ∧ V.cell? ⟨b, j * 4 + 1, none⟩ = some (.int .i64 (k : Int))) := lhd fun V hV => ⟨(hV.cell (p := ⟨b, j * 4, none⟩) hlb2).trans q0', (hV.cell (p := ⟨b, j * 4 + 1, none⟩) hlb2).trans q1'⟩
      have HLAY : Hid (∀ V : World, Calls Tryz.prog 79 #[.int .i64 (n : Int), .int .i64 (k : Int)] V fun e w' => ∃ g, e = .returned (.slice (some ⟨g, 0, none⟩) k k) ∧ w'.ownsRow V.heap.size 5 1 (.slice (some ⟨g, 0, none⟩) k k) k ((beN k n).map byteV) ∧ Below V.heap.size V w') := lhd fun V => yA1 n k hn63 (by omega)
      clear q0 q1 q2 q3 hlb n0 n1 n2 n3 hst hn hk q0' q1' hown hbel
      generalize hbs : beN k n = bs at *
      generalize bytesN (L.take j) = F at *
      go_upto_region 5 with fail
      have hbd := HB.out.drew
      obtain ⟨p0, p1⟩ := HCV.out _ hbd
      have HBD := lhd hbd
      have HOD := lhd (HO.out.drew)
      obtain ⟨af, cf, hfe, -, -⟩ := zAe HO.out
      subst hfe
      clear hbd
      go_region_law (first
        | (refine step_append_lies _ rfl (.tmp 12) (.tmp 23) 31 rfl w.heap.size 5 i0 (.int .u8 0) 1 1 Tryz.underlying31 hi0 hz0 hz1 hz2 rfl (by decide) (.slice af F.length cf) F.length (F.map byteV) (by simp [Act.eval]) HO6.out ⟨g, 0, none⟩ k k (bs.map byteV) (by simp [Act.eval]) (by rw [List.length_map, HLN.out, Nat.mul_one]) HN6.out (fun y hy => by obtain ⟨z, -, rfl⟩ := List.mem_map.1 hy; rfl) (by omega) (by unfold maxLen; omega) (by omega) HB6.out.size _ rfl ?_; intro g2 q2 w7 hown1 hgrow1 _ _; have HB7 := lhd (HB6.out.grown hgrow1 HB6.out.size (fun k hk => (HO6.out.lt k hk).1)); have HO7 : Hid (w7.ownsRow w.heap.size 5 1 (.slice (some ⟨g2, 0, none⟩) (F.length + k) q2) (F ++ bs).length ((F ++ bs).map byteV)) := lhd (by rw [List.length_append, HLN.out, List.map_append]; exact hown1); clear hown1 hgrow1)
        | (go_simp; go_at_call 79; (with_reducible refine (HLAY.out _).mono ?_); rintro e w6 ⟨g, rfl, ho6, hb6⟩; have HB6 := lhd (HBD.out.trans (hb6.mono HBD.out.size)); have HO6 := lhd (zAh HOD.out hb6); have HN6 : Hid (∀ t u, (bs.map byteV)[t]? = some u → w6.cell? (Addr.add ⟨g, 0, none⟩ t) = some u) := lhd (yBw ho6 (by rw [List.length_map, HLN.out])); obtain ⟨p0, p1⟩ := HCV.out _ HB6.out; clear ho6 hb6))
      all_goals
        rw [← HST.out] at HO7
        go_wp2
        go_roundw
        case rel => exact ⟨j + 1, hlt, by go_num, HO7.out, HB7.out⟩
        case measure => simp [intOf]; omega
    · obtain rfl : j = L.length := by omega
      have d1 : decide ((L.length : Int) < (L.length : Int)) = false := decide_eq_false (by omega)
      rw [HTE.out] at HO
      obtain ⟨af, cf, hfe, -, -⟩ := zAe HO.out
      subst hfe
      clear hown hbel
      go_wp2
      go_ret
      exact ⟨_, rfl, HO.out, HB.out⟩
end

section
open Go.RowKit Go.Extern.Stop Go.Stop Go.Extern
theorem yBd (W : World) (c c' : Array Value) (t : TypeId) (Y : Obj) : ((W.alloc (.cells c t)).alloc Y).setRow W.heap.size c' = (W.alloc (.cells c' t)).alloc Y := by
  simp only [World.setRow, World.alloc]
  congr 1
  apply Array.ext_getElem?
  intro i
  rw [Array.getElem?_modify]
  by_cases h : W.heap.size = i
  · subst h
    simp [Array.getElem?_push]
  · have h' : ¬ i = W.heap.size := fun e => h e.symm
    simp only [Array.getElem?_push, Array.size_push, if_neg h, if_neg h']
section
variable {P : Program} {ops : Array Oper} {rest : List Oper} {o : Oper} {a : Act} {Q : Exit → Act → World → Prop}
theorem yAe {W : World} {X : Obj} {t : TypeId} {old : Array Value} (cells : Array Value) (hgd : o.guard = none) (ty : TypeId) (x y : Operand) (ho : o.op = .store ty x y) (hx : a.eval x = .pointer (some ⟨W.heap.size + 1, 0, none⟩)) (hy : a.eval y = .agg cells)
    (hi : (P.info? ty).map (·.size) = some cells.size) (hold : old.size = cells.size) (h1 : cells.all (·.oneCell') = true)
    (h : wpList P ops Q rest (a.put o.dst undef) ((W.alloc X).alloc (.cells cells t))) : wpList P ops Q (o :: rest) a ((W.alloc X).alloc (.cells old t)) := by
  have hh := heap_alloc_last (W.alloc X) (.cells old t)
  rw [World.size_alloc] at hh
  refine wpList_store_row hgd ty x y ho (W.heap.size + 1) cells hx hy t old hh hi hold h1 ?_
  have e := World.setRow_alloc_new (W.alloc X) old cells t
  rw [World.size_alloc] at e
  rw [e]
  exact h
theorem yAd {W : World} {Y : Obj} {t : TypeId} {old : Array Value} (cells : Array Value) (hgd : o.guard = none) (ty : TypeId) (x y : Operand) (ho : o.op = .store ty x y) (hx : a.eval x = .pointer (some ⟨W.heap.size, 0, none⟩)) (hy : a.eval y = .agg cells)
    (hi : (P.info? ty).map (·.size) = some cells.size) (hold : old.size = cells.size) (h1 : cells.all (·.oneCell') = true)
    (h : wpList P ops Q rest (a.put o.dst undef) ((W.alloc (.cells cells t)).alloc Y)) : wpList P ops Q (o :: rest) a ((W.alloc (.cells old t)).alloc Y) := by
  have hh : ((W.alloc (.cells old t)).alloc Y).heap[W.heap.size]? = some (.cells old t (0, 0)) :=
    (((Below.refl (W.alloc (.cells old t)).heap.size (W.alloc (.cells old t))).alloc (Nat.le_refl _) Y).block W.heap.size (by rw [World.size_alloc]; omega)).trans (heap_alloc_last W _)
  refine wpList_store_row hgd ty x y ho W.heap.size cells hx hy t old hh hi hold h1 ?_
  rw [yBd W old cells t Y]
  exact h
theorem yAg {W : World} {X : Obj} {t : TypeId} {cells : Array Value} (hgd : o.guard = none) (ty : TypeId) (x : Operand) (ho : o.op = .load ty x) (hx : a.eval x = .pointer (some ⟨W.heap.size + 1, 0, none⟩)) (d : TypeDesc)
    (hu : P.underlying ty = some d) (hd : (match d with | .struct _ | .array _ _ => true | _ => false) = true) (hi : (P.info? ty).map (·.size) = some cells.size)
    (h : wpList P ops Q rest (a.put o.dst (.agg cells)) ((W.alloc X).alloc (.cells cells t))) : wpList P ops Q (o :: rest) a ((W.alloc X).alloc (.cells cells t)) := by
  have hh := heap_alloc_last (W.alloc X) (.cells cells t)
  rw [World.size_alloc] at hh
  exact wpList_load_row hgd ty x ho (W.heap.size + 1) hx t cells (0, 0) d hh hu hd hi h
end
section
variable {P : Program} {ops : Array Oper} {rest : List Oper} {o : Oper} {a : Act} {w : World} {Q : Exit → Act → World → Prop}
theorem yAl (hw : Region.wanted o (yielded ops a.tmps) = true) (ty : TypeId) (x : Operand) (ho : o.op = .load ty x)
    (g : Nat) (hx : a.eval x = .pointer (some ⟨g, 0, none⟩)) (t : TypeId) (cs : Array Value) (fr : Nat × Nat) (d : TypeDesc) (hg : w.heap[g]? = some (.cells cs t fr))
    (hu : P.underlying ty = some d) (hd : (match d with | .struct _ | .array _ _ => true | _ => false) = true) (hi : (P.info? ty).map (·.size) = some cs.size)
    (h : wpList P ops Q rest (a.put o.dst (.agg cs)) w) : wpList P ops Q (o :: rest) a w :=
  wpList_step fun K hK => by rw [if_pos hw]; exact wp_load_row ty x ho g hx t cs fr d hg hu hd hi (hK _ _ h)
end
theorem yAh {P : Program} {o : Oper} {a : Act} {C : World → Prop} {V : World} (ty : TypeId) (x : Operand) (ho : o.op = .load ty x) (g : Nat) (hx : a.eval x = .pointer (some ⟨g, 0, none⟩)) (t : TypeId) (cs : Array Value) (fr : Nat × Nat) (d : TypeDesc)
    (hg : V.heap[g]? = some (.cells cs t fr)) (hu : P.underlying ty = some d) (hd : (match d with | .struct _ | .array _ _ => true | _ => false) = true) (hi : (P.info? ty).map (·.size) = some cs.size) : o.quietAt P a C V (.agg cs) := by
  unfold Oper.quietAt execOp
  simp only [ho, hx, Instr.loadAt, Instr.sureAddr, Sem.run_bind, Sem.run_pure, Result.andThen_ok, run_loadVar_row V g t ty cs fr d hg hu hd hi]
  exact ⟨rfl, rfl⟩
end

section
open Go.RowKit Go.Extern.Stop Go.Stop Go.Extern
theorem yAy {j : Nat} (h : j ≤ 30) : 2 ^ j ≤ 1073741824 := show 2 ^ j ≤ 2 ^ 30 from Nat.pow_le_pow_right (by decide) h
theorem yAU {w : World} (k : Nat) (hk : k ≤ 31) : Calls Tryz.prog 137 #[.int .i64 (k : Int)] w fun e w' => e = .returned (.int .u32 ((2 ^ k : Nat) : Int)) ∧ w = w' := by
  go_enter Tryz.func137, Tryz.ntmps137
  go_wp2_with fail
  go_loopw [3, 4] (fun n i wr => ∃ j : Nat, j ≤ k ∧ i = .int .i64 (j : Int) ∧ n = .int .u32 ((2 ^ j : Nat) : Int) ∧ w = wr) (fun _ i _ => k - (intOf i).toNat)
  case atStart => exact ⟨0, by omega, rfl, rfl, rfl⟩
  case round =>
    obtain ⟨j, hj, rfl, rfl, rfl⟩ := hrel
    by_cases hlt : j < k
    · have d1 : decide ((j : Int) < (k : Int)) = true := decide_eq_true (by omega)
      have hle := yAy (show j ≤ 30 by omega)
      have HS : Hid (2 ^ (j + 1) = 2 ^ j * 2) := lhd (Nat.pow_succ 2 j)
      generalize 2 ^ j = x at *
      go_wp2
      go_roundw
      case rel => exact ⟨j + 1, hlt, by go_num, by rw [HS.out]; go_num, trivial⟩
      case measure => simp [intOf]; omega
    · obtain rfl : j = k := by omega
      have d1 : decide ((j : Int) < (j : Int)) = false := decide_eq_false (by omega)
      go_wp2
      go_ret
      exact ⟨rfl, rfl⟩
theorem yBK (n y b : Nat) (h : b < 8) : crcR n ((octBits y).take (b + 1)) = crcS (crcR n ((octBits y).take b)) (y.testBit b) := by
  have hl : b < (octBits y).length := by rw [zDv]; exact h
  rw [List.take_add_one, List.getElem?_eq_getElem hl, zBH]
  have : (octBits y)[b] = y.testBit b := by simp [octBits]
  rw [this]; rfl
theorem yB0 (y b : Nat) : y.testBit b = decide (y / 2 ^ b % 2 = 1) := Nat.testBit_eq_decide_div_mod_eq
theorem yBo {w : World} (v : Value) (l : List Nat) (h : ListAt byteV w v l) (ho : Octets l) : Calls Tryz.prog 104 #[v] w fun e w' => e = .returned (.int .u32 ((crcSum l : Nat) : Int)) ∧ Below w.heap.size w w' := by
  have hlen := h.len
  obtain ⟨a, cap, rfl, hc1, hc2, hcell⟩ := h
  have HC := lhd hcell
  have HR0 : Hid (crcO 4294967295 (l.take 0) = 4294967295) := lhd rfl
  have HLT : Hid (∀ j, crcO 4294967295 (l.take j) < 4294967296) := lhd fun j => zJu _ _ (by decide)
  have HLT2 : Hid (∀ j (bs : List Bool), crcR (crcO 4294967295 (l.take j)) bs < 4294967296) := lhd fun j bs => zJt _ _ (zJu _ _ (by decide))
  have HO := lhd ho
  have HEND : Hid (crcSum l = 4294967295 - crcO 4294967295 (l.take l.length)) := lhd (by rw [List.take_length]; rfl)
  clear hcell ho
  go_enter Tryz.func104, Tryz.ntmps104
  go_wp2_with fail
  go_loopw [3, 4] (fun n i wr => ∃ j : Nat, j ≤ l.length ∧ i = .int .i64 (j : Int) ∧ n = .int .u32 ((crcO 4294967295 (l.take j) : Nat) : Int) ∧ Below w.heap.size w wr) (fun _ i _ => l.length - (intOf i).toNat)
  case atStart => exact ⟨0, by omega, rfl, by rw [HR0.out]; rfl, Below.refl _ _⟩
  case round =>
    obtain ⟨j, hj, rfl, rfl, hbel⟩ := hrel
    have HB := lhd hbel
    have hn0 := HLT.out j
    by_cases hlt : j < l.length
    · have d1 : decide ((j : Int) < (l.length : Int)) = true := decide_eq_true (by omega)
      obtain ⟨bk, off, rfl, hcc⟩ := HC.out (by omega)
      have hx := hcc j hlt
      have hy : l.getD j 0 < 256 := HO.out.getD j
      have hcell : w.cell? ⟨bk, off + j, none⟩ = some (byteV (l.getD j 0)) := by
        rw [hx]; simp [List.getD_eq_getElem?_getD, hlt]
      have hbl := World.block_lt_of_cell? w _ hcell
      have HCELL : Hid (∀ V, Below w.heap.size w V → V.cell? ⟨bk, off + j, none⟩ = some (.int .u8 ((l.getD j 0 : Nat) : Int))) := lhd fun V hV => (hV.cell (p := ⟨bk, off + j, none⟩) hbl).trans hcell
      have HTK := lhd (zLg l 4294967295 j hlt)
      have HLT3 := lhd (HLT2.out j)
      clear hcc hx hcell hbel
      generalize l.getD j 0 = y at *
      generalize crcO 4294967295 (l.take j) = n0 at *
      have HB8 : Hid (crcR n0 (octBits y) = crcR n0 ((octBits y).take 8)) := lhd (by rw [List.take_of_length_le (by rw [zDv]; exact Nat.le_refl _)])
      have HB0 : Hid (crcR n0 ((octBits y).take 0) = n0) := lhd rfl
      go_wp2_with fail
      go_loopw [3, 5] (fun n b wr => ∃ t : Nat, t ≤ 8 ∧ b = .int .i64 (t : Int) ∧ n = .int .u32 ((crcR n0 ((octBits y).take t) : Nat) : Int) ∧ Below w.heap.size w wr) (fun _ b _ => 8 - (intOf b).toNat)
      case atStart => exact ⟨0, by omega, rfl, by rw [HB0.out], HB.out⟩
      case round =>
        obtain ⟨t, ht, rfl, rfl, hbel⟩ := hrel
        have HB2 := lhd hbel
        have hn1 := HLT3.out ((octBits y).take t)
        by_cases htl : t < 8
        · have d2 : decide ((t : Int) < 8) = true := decide_eq_true (by omega)
          have HST := lhd (yBK n0 y t htl)
          have q1 := HCELL.out wr hbel
          have HP : Hid (∀ V : World, Calls Tryz.prog 137 #[.int .i64 (t : Int)] V fun e w' => e = .returned (.int .u32 ((2 ^ t : Nat) : Int)) ∧ w' = V) := lhd fun V => (yAU t (by omega)).mono (by rintro e w' ⟨rfl, rfl⟩; exact ⟨rfl, rfl⟩)
          have hx1 : 1 ≤ 2 ^ t := Nat.one_le_two_pow
          have hx2 := yAy (show t ≤ 30 by omega)
          have HBIT := lhd (yB0 y t)
          have hd : y / 2 ^ t ≤ y := Nat.div_le_self _ _
          clear hbel
          generalize crcR n0 ((octBits y).take t) = n at *
          generalize 2 ^ t = x at *
          have hz : ¬ x = 0 := by omega
          have hz2 : ¬ (x : Int) = 0 := by omega
          have hq1 : (y : Int) / (x : Int) = ((y / x : Nat) : Int) := by simp
          have hq2 : (y : Int).tdiv (x : Int) = ((y / x : Nat) : Int) := rfl
          generalize y / x = d at *
          go_upto_region 8 with fail
          go_quiet (exact Calls.quiet_of_same (HP.out _))
          have HBN := lhd (zDe HB2.out nq)
          have hh : (n : Int) / 2 = ((n / 2 : Nat) : Int) := by omega
          have hm : n / 2 < 4294967296 := by omega
          have HXR : Hid (bits .xor .u32 ((n / 2 : Nat) : Int) 2197175160 = ((n / 2 ^^^ 2197175160 : Nat) : Int)) := lhd (zDP (n / 2) 2197175160 hm (by decide))
          have HCS : Hid (crcS n (y.testBit t) = if d % 2 = n % 2 then n / 2 else n / 2 ^^^ 2197175160) := lhd (by
            unfold crcS crcP
            rw [HBIT.out, Nat.testBit_zero]
            by_cases h : d % 2 = n % 2
            · rw [if_pos h, if_pos (by rw [h])]
            · rw [if_neg h, if_neg (by intro e; have := decide_eq_decide.1 e; omega)])
          generalize n / 2 = m at *
          by_cases hb : d % 2 = n % 2
          · have e1 : (((d : Int) % 2) != ((n : Int) % 2)) = false := by simp; omega
            have HNW : Hid (crcS n (y.testBit t) = m) := lhd (by rw [HCS.out, if_pos hb])
            clear hb
            go_wp2
            go_roundw
            case rel => exact ⟨t + 1, by omega, by go_num, by rw [HST.out, HNW.out], HBN.out⟩
            case measure => simp [intOf]; omega
          · have e1 : (((d : Int) % 2) != ((n : Int) % 2)) = true := by simp; omega
            have HNW : Hid (crcS n (y.testBit t) = m ^^^ 2197175160) := lhd (by rw [HCS.out, if_neg hb])
            have hxr := HXR.out
            generalize m ^^^ 2197175160 = z at *
            clear hb
            go_wp2
            go_roundw
            case rel => exact ⟨t + 1, by omega, by go_num, by rw [HST.out, HNW.out], HBN.out⟩
            case measure => simp [intOf]; omega
        · obtain rfl : t = 8 := by omega
          clear hbel
          generalize hq : crcR n0 ((octBits y).take 8) = n at *
          have HQ := lhd hq
          clear hq
          go_wp2
          go_roundw
          case rel => exact ⟨j + 1, hlt, by go_num, by rw [HTK.out, HB8.out], HB2.out⟩
          case measure => simp [intOf]; omega
    · obtain rfl : j = l.length := by omega
      have d1 : decide ((l.length : Int) < (l.length : Int)) = false := decide_eq_false (by omega)
      generalize crcO 4294967295 (l.take l.length) = n at *
      obtain ⟨m, hm⟩ : ∃ m, m = 4294967295 - n := ⟨_, rfl⟩
      have hsub : (4294967295 : Int) - (n : Int) = (m : Int) := by omega
      have hml : m < 4294967296 := by omega
      have HM := lhd hm
      clear hbel hm
      go_wp2
      go_ret
      exact ⟨by rw [HEND.out, ← HM.out]; rfl, HB.out⟩
end

section
open Go.RowKit Go.Extern.Stop Go.Stop Go.Extern
theorem yAA (n : Nat) : Octets (le4 n) := fun x hx => by
  simp [le4] at hx
  rcases hx with rfl | rfl | rfl | rfl <;> omega
theorem yBJ (w : World) (a b c d : Value) (e : TypeId) : ListAt id (w.alloc (.cells #[a, b, c, d] e)) (.slice (some ⟨w.heap.size, 0, none⟩) 4 4) [a, b, c, d] :=
  ListAt.of_owns (f := id) (l := [a, b, c, d]) (zAq (base := 0) (n := 4) (g := w.heap.size) (e := e) (xs := [a, b, c, d].map id) (Nat.zero_le _) rfl (by decide) (heap_alloc_new w _))
theorem yBs {w : World} (v : Value) (l : List Nat) (h : ListAt byteV w v l) (ho : Octets l) (hR : l.length ≤ 140737488351232) :
    Calls Tryz.prog 66 #[v] w fun e w' => ∃ v', e = .returned v' ∧ w'.ownsRow w.heap.size 5 1 v' (l.length + 4) ((l ++ le4 (crcSum l)).map byteV) ∧ Below w.heap.size w w' := by
  obtain ⟨j0, hj0, jz0, jz1, jz2⟩ := info_parts zAY
  have HS := lhd (yBo v l h ho)
  have HL := lhd h
  obtain ⟨a, cap, rfl, -, -, -⟩ := h
  have hn := zIp l
  have HLE : Hid (∀ n, n = crcSum l → le4 (crcSum l) = [n % 256, n / 256 % 256, n / 65536 % 256, n / 16777216 % 256]) := lhd fun n e => by rw [e]; rfl
  generalize crcSum l = n at *
  have HLE' := HLE.out n rfl
  go_enter Tryz.func66, Tryz.ntmps66
  go_wp2_with fail
  refine HS.out.mono ?_
  rintro e w1 ⟨rfl, hb1⟩
  have HB1 := lhd hb1
  have hsz := hb1.size
  have HOS := lhd (World.ownsRow_made (base := w.heap.size) (e := 5) (size := 1) w1 #[] 0 hsz (by decide) rfl)
  have HB2 := lhd (hb1.alloc hsz (.cells #[] 5))
  have HL2 := lhd (HL.out.mono HB2.out)
  have n0 : n % 256 ≤ 255 := by omega
  have n1 : n / 256 % 256 ≤ 255 := by omega
  have n2 : n / 65536 % 256 ≤ 255 := by omega
  have n3 : n / 16777216 ≤ 255 := by omega
  clear hb1
  go_wp2_with (first
    | ((with_reducible show wpList _ _ _ (⟨some 9, _, _, _, _, _⟩ :: _) _ _); refine zAB _ rfl (.tmp 7) (.tmp 8) 31 rfl w.heap.size 5 j0 (.int .u8 0) 1 Tryz.underlying31 hj0 jz0 jz1 jz2 rfl (.slice (some ⟨w1.heap.size, 0, none⟩) 0 0) 0 [] rfl HOS.out (.slice a l.length cap) l rfl HL2.out (fun y _ => rfl) (by unfold maxLen; omega) (by omega) (by simp; omega) ?_; intro v3 w3 ho3 hg3; have HO3 := lhd (show w3.ownsRow w.heap.size 5 1 v3 l.length (l.map byteV) by simpa using ho3); have HB3 := lhd (HB2.out.grown hg3 (by simp; omega) (fun k hk => (HOS.out.lt k hk).1)); obtain ⟨a3, c3, rfl, -, -⟩ := zAe HO3.out; clear ho3 hg3)
    | (at_builtin; refine zAB (f := id) _ rfl (.tmp 10) (.tmp 25) 31 rfl w.heap.size 5 j0 (.int .u8 0) 1 Tryz.underlying31 hj0 jz0 jz1 jz2 rfl (.slice a3 l.length c3) l.length (l.map byteV) rfl (HO3.out.alloc _) (.slice (some ⟨w3.heap.size, 0, none⟩) 4 4) [.int .u8 ((n : Int) % 256), .int .u8 ((n : Int) / 256 % 256), .int .u8 ((n : Int) / 65536 % 256), .int .u8 ((n : Int) / 16777216)] rfl (yBJ w3 _ _ _ _ _) (fun y hy => by simp at hy; rcases hy with rfl | rfl | rfl | rfl <;> rfl) (by simp; unfold maxLen; omega) (by simp; omega) (by have := HB3.out.size; simp; omega) ?_; intro v4 w4 ho4 hg4; have HO4 := lhd ho4; have HB4 := lhd ((HB3.out.alloc HB3.out.size (.cells #[.int .u8 ((n : Int) % 256), .int .u8 ((n : Int) / 256 % 256), .int .u8 ((n : Int) / 65536 % 256), .int .u8 ((n : Int) / 16777216)] 5)).grown hg4 (by have := HB3.out.size; simp; omega) (fun k hk => (HO3.out.lt k hk).1)); clear ho4 hg4))
  go_ret
  refine ⟨_, rfl, ?_, HB4.out⟩
  have h4 := HO4.out
  rw [List.map_append, HLE']
  have e : [n % 256, n / 256 % 256, n / 65536 % 256, n / 16777216 % 256].map byteV = [Value.int .u8 ((n : Int) % 256), .int .u8 ((n : Int) / 256 % 256), .int .u8 ((n : Int) / 65536 % 256), .int .u8 ((n : Int) / 16777216)].map id := by
    simp [byteV]
    omega
  rw [e]
  exact h4
theorem yAw (l : List Nat) : (strN l).toList = l.map UInt8.ofNat := by
  rw [ByteArray.toList_eq, strN, strOfNums_data, List.map_map]
  rfl
theorem yAC : ∀ {a b : List Nat}, Octets a → Octets b → a.map UInt8.ofNat = b.map UInt8.ofNat → a = b
  | [], [], _, _, _ => rfl
  | [], _ :: _, _, _, h => by simp at h
  | _ :: _, [], _, _, h => by simp at h
  | x :: a, y :: b, ha, hb, h => by
    rw [List.map_cons, List.map_cons, List.cons.injEq] at h
    have h1 : x = y := by
      have hx : x < 256 := ha x (List.mem_cons_self ..)
      have hy : y < 256 := hb y (List.mem_cons_self ..)
      have := congrArg UInt8.toNat h.1
      simpa [Nat.mod_eq_of_lt hx, Nat.mod_eq_of_lt hy] using this
    rw [h1, yAC (fun z hz => ha z (List.mem_cons_of_mem _ hz)) (fun z hz => hb z (List.mem_cons_of_mem _ hz)) h.2]
theorem yAn {a b : List Nat} (ha : Octets a) (hb : Octets b) : ((strN a).toList == (strN b).toList) = decide (a = b) := by
  by_cases h : a = b
  · rw [h]; simp
  · rw [decide_eq_false h]
    exact beq_eq_false_iff_ne.2 fun e => h (yAC ha hb (by rwa [yAw, yAw] at e))
def WholeS (l : List Nat) : Prop := l.take (l.length - 4) ++ le4 (crcSum (l.take (l.length - 4))) = l
theorem yBg {w : World} (v : Value) (l : List Nat) (h : ListAt byteV w v l) (ho : Octets l) (hR : l.length ≤ 140737488351232) :
    Calls Tryz.prog 43 #[v] w fun e w' => Below w.heap.size w w' ∧
      ((l.length < 4 ∧ e = .returned (.tuple #[nilS, .int .i64 2])) ∨ (4 ≤ l.length ∧ ¬ WholeS l ∧ e = .returned (.tuple #[nilS, .int .i64 6])) ∨
      (4 ≤ l.length ∧ WholeS l ∧ ∃ v', e = .returned (.tuple #[v', .int .i64 0]) ∧ ListAt byteV w' v' (l.take (l.length - 4)))) := by
  have HL := lhd h
  obtain ⟨a, cap, rfl, hcap, hcm, -⟩ := h
  by_cases h4 : l.length < 4
  · have d1 : decide ((l.length : Int) < 4) = true := decide_eq_true (by omega)
    go_enter Tryz.func43, Tryz.ntmps43
    go_wp2_with fail
    go_ret2
    exact ⟨Below.refl _ _, .inl ⟨h4, rfl⟩⟩
  · have d1 : decide ((l.length : Int) < 4) = false := decide_eq_false (by omega)
    have htk := HL.out.take (l.length - 4) (by omega)
    have hcb : cap ≤ 9223372036854775807 := hcm
    have hsub : (l.length : Int) - 4 = ((l.length - 4 : Nat) : Int) := by omega
    have hle : l.length - 4 ≤ l.length := by omega
    have hoP : Octets (l.take (l.length - 4)) := fun x hx => ho x (List.mem_of_mem_take hx)
    have hPl : (l.take (l.length - 4)).length = l.length - 4 := by rw [List.length_take]; omega
    have hbd : Below w.heap.size w w.drew := (Below.refl _ _).drew
    have HBD := lhd hbd
    have HAD : Hid (∀ V, Below w.heap.size w V → Calls Tryz.prog 66 #[.slice a (l.length - 4) cap] V fun e w' => ∃ v', e = .returned v' ∧ w'.ownsRow V.heap.size 5 1 v' (l.length - 4 + 4) ((l.take (l.length - 4) ++ le4 (crcSum (l.take (l.length - 4)))).map byteV) ∧ Below V.heap.size V w') := lhd fun V hV => by
      have := yBs (.slice a (l.length - 4) cap) (l.take (l.length - 4)) (htk.mono hV) hoP (by omega)
      rwa [hPl] at this
    have HTK := lhd htk
    have HWS : Hid (WholeS l ↔ l.take (l.length - 4) ++ le4 (crcSum (l.take (l.length - 4))) = l) := lhd Iff.rfl
    have HLEN : Hid ((l.take (l.length - 4) ++ le4 (crcSum (l.take (l.length - 4)))).length = l.length - 4 + 4) := lhd (by rw [List.length_append, hPl]; rfl)
    have HOQ : Hid (Octets (l.take (l.length - 4) ++ le4 (crcSum (l.take (l.length - 4))))) := lhd fun x hx => by
      rcases List.mem_append.1 hx with h | h
      · exact hoP x h
      · exact yAA _ x h
    have HO := lhd ho
    have HCV : Hid (∀ V, Below w.heap.size w V → (convert 31 9 (.slice a l.length cap)).run Tryz.prog V = .ok (.string (strN l)) V) := lhd fun V hV => (HL.out.mono hV).str
    have h4' : 4 ≤ l.length := by omega
    have HSD := lhd (HCV.out _ hbd)
    clear htk hoP hPl hbd ho h4
    generalize l.take (l.length - 4) ++ le4 (crcSum (l.take (l.length - 4))) = Q at *
    have hm4 : l.length - 4 + 4 = l.length := by omega
    generalize l.length - 4 = m at *
    have hw1 : IntKind.i64.wrap (m : Int) = (m : Int) := IntWalk.i64_in _ (by omega)
    have hi0 : (0 : Int) ≤ (m : Int) := by omega
    have hi1 : (m : Int) ≤ (cap : Int) := by omega
    go_enter Tryz.func43, Tryz.ntmps43
    go_upto_region 3 with fail
    have hsd := HSD.out
    go_region_law (first
      | (go_simp; go_at_call 66; (with_reducible refine (HAD.out _ HBD.out).mono ?_); rintro e w3 ⟨v3, rfl, ho3, hb3⟩; have HB3 := lhd (HBD.out.trans (hb3.mono HBD.out.size)); have HO3 := lhd ho3; have hst := (ListAt.of_owns (f := byteV) (l := Q) (show w3.ownsRow w.drew.heap.size 5 1 v3 Q.length (Q.map byteV) by rw [HLEN.out]; exact ho3)).str; have hcv := HCV.out _ HB3.out; clear ho3 hb3))
    all_goals
      by_cases hQ : Q = l
      · have hneq : (!((strN Q).toList == (strN l).toList)) = false := by rw [yAn HOQ.out HO.out, decide_eq_true hQ]; rfl
        rw [hneq]
        go_wp2
        go_ret2
        exact ⟨HB3.out, .inr (.inr ⟨h4', HWS.out.2 hQ, _, rfl, HTK.out.mono HB3.out⟩)⟩
      · have hneq : (!((strN Q).toList == (strN l).toList)) = true := by rw [yAn HOQ.out HO.out, decide_eq_false hQ]; rfl
        rw [hneq]
        go_wp2
        go_ret2
        exact ⟨HB3.out, .inr (.inl ⟨h4', fun e => hQ (HWS.out.1 e), rfl⟩)⟩
end
end Go.Proofs.YtkfimdpcadbcpaaGreatDoor
