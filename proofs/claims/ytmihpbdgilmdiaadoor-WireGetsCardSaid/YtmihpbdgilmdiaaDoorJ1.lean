import Derived.Test.YtmihpbdgilmdiaaDoorWrBox
import Derived.BigQuiet
import Derived.Deep.Cut
import Derived.Test.YtmihpbdgilmdiaaDoorSyMath
import Derived.OwnWalk
import Derived.Deep.AppendLies
import Derived.Deep.RegionLaw
import Derived.Laws.AppendOwnNone

section
/- The document's numbers with their ranges: lists of structs of four ints; are they in their ranges? (layer 16) -/
namespace Go.Proofs.YtmihpbdgilmdiaaDoor
open Go.RowKit Go.Extern.Stop Go.Stop Go.Extern

/-- A number, how many bytes it has, from where, to where. -/
abbrev Num4 := Int × Int × Int × Int
def noNum : Num4 := (0, 0, 0, 0)
def NumsAt (W : World) (v : Value) (L : List Num4) : Prop :=
  ∃ b, v = .slice (some ⟨b, 0, none⟩) L.length L.length ∧ ∀ j, j < L.length →
    W.cell? ⟨b, j * 4, none⟩ = some (.int .i64 (L.getD j noNum).1) ∧ W.cell? ⟨b, j * 4 + 1, none⟩ = some (.int .i64 (L.getD j noNum).2.1) ∧
    W.cell? ⟨b, j * 4 + 2, none⟩ = some (.int .i64 (L.getD j noNum).2.2.1) ∧ W.cell? ⟨b, j * 4 + 3, none⟩ = some (.int .i64 (L.getD j noNum).2.2.2)
theorem NumsAt.mono {W W' : World} {v : Value} {L : List Num4} (h : NumsAt W v L) (hb : Below W.heap.size W W') : NumsAt W' v L := by
  obtain ⟨b, rfl, hc⟩ := h
  refine ⟨b, rfl, fun j hj => ?_⟩
  obtain ⟨c0, c1, c2, c3⟩ := hc j hj
  have hl := World.block_lt_of_cell? W _ c0
  exact ⟨(hb.cell (p := ⟨b, j * 4, none⟩) hl).trans c0, (hb.cell (p := ⟨b, j * 4 + 1, none⟩) hl).trans c1, (hb.cell (p := ⟨b, j * 4 + 2, none⟩) hl).trans c2, (hb.cell (p := ⟨b, j * 4 + 3, none⟩) hl).trans c3⟩

/-- Is each in its range? -/
def FitN (x : Num4) : Prop := x.2.2.1 ≤ x.1 ∧ x.1 ≤ x.2.2.2
instance (x : Num4) : Decidable (FitN x) := by unfold FitN; infer_instance
def FitL (L : List Num4) : Prop := ∀ x ∈ L, FitN x
instance (L : List Num4) : Decidable (FitL L) := by unfold FitL; infer_instance
theorem fitL_get {L : List Num4} {j : Nat} (hj : j < L.length) (h : FitL L) : FitN (L.getD j noNum) := by
  rw [List.getD_eq_getElem?_getD, List.getElem?_eq_getElem hj]
  exact h _ (List.getElem_mem hj)
theorem fitL_all {L : List Num4} (h : ∀ j, j < L.length → FitN (L.getD j noNum)) : FitL L := fun x hx => by
  obtain ⟨j, hj, rfl⟩ := List.mem_iff_getElem.1 hx
  have := h j hj
  rwa [List.getD_eq_getElem?_getD, List.getElem?_eq_getElem hj] at this

set_option maxRecDepth 1000000 in
set_option maxHeartbeats 4000000 in
theorem rFits_any {w : World} (v : Value) (L : List Num4) (h : NumsAt w v L) (hL : L.length ≤ 100) : Calls Tryd.prog 43 #[v] w fun e w' => e = .returned (.bool (decide (FitL L))) ∧ Below w.heap.size w w' := by
  obtain ⟨b, rfl, hc⟩ := h
  have HC := Lib.hid hc
  have HG : Hid (∀ j, j < L.length → FitL L → FitN (L.getD j noNum)) := Lib.hid fun j hj h => fitL_get hj h
  have HA : Hid ((∀ j, j < L.length → FitN (L.getD j noNum)) → FitL L) := Lib.hid fitL_all
  clear hc
  go_enter Tryd.func43, Tryd.ntmps43
  go_wp2_with fail
  go_loopw [3] (fun i wr => ∃ j : Nat, j ≤ L.length ∧ i = .int .i64 (j : Int) ∧ (∀ t, t < j → FitN (L.getD t noNum)) ∧ Below w.heap.size w wr) (fun i _ => L.length - (intOf i).toNat)
  case atStart => exact ⟨0, by omega, rfl, fun t ht => by omega, Below.refl _ _⟩
  case round =>
    obtain ⟨j, hj, rfl, hall, hbel⟩ := hrel
    have HAL := Lib.hid hall
    have HB := Lib.hid hbel
    clear hall hbel
    by_cases hlt : j < L.length
    · have d1 : decide ((j : Int) < (L.length : Int)) = true := decide_eq_true (by omega)
      obtain ⟨q0, q1, q2, q3⟩ := HC.out j hlt
      have hl := World.block_lt_of_cell? w _ q0
      have p0 := (HB.out.cell (p := ⟨b, j * 4, none⟩) hl).trans q0
      have p2 := (HB.out.cell (p := ⟨b, j * 4 + 2, none⟩) hl).trans q2
      have p3 := (HB.out.cell (p := ⟨b, j * 4 + 3, none⟩) hl).trans q3
      have HGJ := Lib.hid (HG.out j hlt)
      have HF : Hid (FitN (L.getD j noNum) ↔ (L.getD j noNum).2.2.1 ≤ (L.getD j noNum).1 ∧ (L.getD j noNum).1 ≤ (L.getD j noNum).2.2.2) := Lib.hid Iff.rfl
      clear q0 q1 q2 q3 hl
      obtain ⟨n, hn⟩ : ∃ n, n = (L.getD j noNum).1 := ⟨_, rfl⟩
      obtain ⟨fr, hfr⟩ : ∃ n, n = (L.getD j noNum).2.2.1 := ⟨_, rfl⟩
      obtain ⟨tt, htt⟩ : ∃ n, n = (L.getD j noNum).2.2.2 := ⟨_, rfl⟩
      rw [← hn] at p0
      rw [← hfr] at p2
      rw [← htt] at p3
      rw [← hn, ← hfr, ← htt] at HF
      clear hn hfr htt
      go_upto_region 4 with fail
      by_cases g1 : n < fr
      · have e1 : decide (n < fr) = true := decide_eq_true g1
        have HN : Hid (¬ FitL L) := Lib.hid fun h => by
          have := HF.out.1 (HGJ.out h)
          omega
        clear g1
        go_quiet (fail)
        have HBN := Lib.hid (below_draws HB.out nq)
        go_wp2
        go_ret
        exact ⟨by rw [decide_eq_false HN.out]; rfl, HBN.out⟩
      · have e1 : decide (n < fr) = false := decide_eq_false g1
        by_cases g2 : tt < n
        · have e2 : decide (tt < n) = true := decide_eq_true g2
          have HN : Hid (¬ FitL L) := Lib.hid fun h => by
            have := HF.out.1 (HGJ.out h)
            omega
          clear g1 g2
          go_quiet (fail)
          have HBN := Lib.hid (below_draws HB.out nq)
          go_wp2
          go_ret
          exact ⟨by rw [decide_eq_false HN.out]; rfl, HBN.out⟩
        · have e2 : decide (tt < n) = false := decide_eq_false g2
          have HN : Hid (∀ t, t < j + 1 → FitN (L.getD t noNum)) := Lib.hid fun t ht => by
            by_cases e : t = j
            · rw [e]; exact HF.out.2 ⟨by omega, by omega⟩
            · exact HAL.out t (by omega)
          clear g1 g2
          go_quiet (fail)
          have HBN := Lib.hid (below_draws HB.out nq)
          go_wp2
          go_roundw
          case rel => exact ⟨j + 1, hlt, by go_num, HN.out, HBN.out⟩
          case measure => simp [intOf]; omega
    · obtain rfl : j = L.length := by omega
      have d1 : decide ((L.length : Int) < (L.length : Int)) = false := decide_eq_false (by omega)
      have HN := Lib.hid (HA.out HAL.out)
      go_wp2
      go_ret
      exact ⟨by rw [decide_eq_true HN.out]; rfl, HB.out⟩
end Go.Proofs.YtmihpbdgilmdiaaDoor
end

section
/- The document's lists of a packet's numbers: head, data, announce (layer 16). -/
namespace Go.Proofs.YtmihpbdgilmdiaaDoor
open Go.RowKit Go.Extern.Stop Go.Stop Go.Extern

def flatN : List Num4 → List Value
  | [] => []
  | x :: L => .int .i64 x.1 :: .int .i64 x.2.1 :: .int .i64 x.2.2.1 :: .int .i64 x.2.2.2 :: flatN L
theorem flatN_get : ∀ (L : List Num4) (j : Nat), j < L.length → (flatN L)[j * 4]? = some (.int .i64 (L.getD j noNum).1) ∧ (flatN L)[j * 4 + 1]? = some (.int .i64 (L.getD j noNum).2.1) ∧
    (flatN L)[j * 4 + 2]? = some (.int .i64 (L.getD j noNum).2.2.1) ∧ (flatN L)[j * 4 + 3]? = some (.int .i64 (L.getD j noNum).2.2.2)
  | [], j, h => by simp at h
  | x :: L, 0, _ => ⟨rfl, rfl, rfl, rfl⟩
  | x :: L, j + 1, h => by
    have := flatN_get L j (by simpa using h)
    rw [show (j + 1) * 4 = j * 4 + 1 + 1 + 1 + 1 by omega]
    exact this
theorem nums_new (w : World) (L : List Num4) (T : TypeId) : NumsAt (w.alloc (.cells (flatN L).toArray T)) (.slice (some ⟨w.heap.size, 0, none⟩) L.length L.length) L := by
  refine ⟨_, rfl, fun j hj => ?_⟩
  obtain ⟨h0, h1, h2, h3⟩ := flatN_get L j hj
  have hh := heap_alloc_new w (.cells (flatN L).toArray T)
  exact ⟨cell_of_heap hh (by simpa using h0), cell_of_heap hh (by simpa using h1), cell_of_heap hh (by simpa using h2), cell_of_heap hh (by simpa using h3)⟩

def headN (p : Pkt) : List Num4 := [(p.kind, 1, 1, 2), (p.session, 2, 0, 65535), (p.layer, 1, 0, 7), (p.tick, 5, 0, 1099511627775)]
def dataN (p : Pkt) : List Num4 := [(p.sync + 1, 1, 0, 8), (p.many, 2, 1, 4096), (p.place, 2, 0, IntKind.i64.wrap (p.many - 1)), (p.block, 1, 0, 15), (p.esi, 2, 0, 65535)]
def annN (p : Pkt) : List Num4 := [(p.size, 4, -9223372036854775808, 4294967295), (p.layers, 1, 1, 8), (p.esis, 2, 1, 65536), (p.base, 2, 2, 4096), (p.length, 2, 1, p.base - 1)]

set_option maxRecDepth 1000000 in
set_option maxHeartbeats 4000000 in
theorem rHead_any {w : World} (p : Pkt) (D : Value) : Calls Tryd.prog 44 #[pktV p D] w fun e w' => ∃ v, e = .returned v ∧ NumsAt w' v (headN p) ∧ Below w.heap.size w w' := by
  obtain ⟨W1, hW1, hb1, hx1⟩ := pkt_laid w p D
  have HB := Lib.hid hb1
  have HW := Lib.hid hW1
  obtain ⟨a0, a1, a2, a3, -⟩ := hx1.cells
  have HN := Lib.hid (nums_new W1 (headN p) 117)
  unfold pktC at HW
  unfold pktV pktC
  clear hW1 hb1 hx1
  go_enter Tryd.func44, Tryd.ntmps44
  go_upto_region 1 with fail
  rw [← HW.out]
  go_wp2
  go_ret
  exact ⟨_, rfl, HN.out, HB.out.alloc HB.out.size _⟩

set_option maxRecDepth 1000000 in
set_option maxHeartbeats 4000000 in
theorem rData_any {w : World} (p : Pkt) (D : Value) (h1 : -1 ≤ p.sync) (h2 : p.sync ≤ 7) : Calls Tryd.prog 45 #[pktV p D] w fun e w' => ∃ v, e = .returned v ∧ NumsAt w' v (dataN p) ∧ Below w.heap.size w w' := by
  obtain ⟨W1, hW1, hb1, hx1⟩ := pkt_laid w p D
  have HB := Lib.hid hb1
  have HW := Lib.hid hW1
  obtain ⟨-, -, -, -, -, a5, a6, a7, a8, a9, -⟩ := hx1.cells
  have HN := Lib.hid (nums_new W1 (dataN p) 117)
  have hw := IntWalk.i64_in (p.sync + 1) (by omega)
  have HD : Hid (flatN (dataN p) = [.int .i64 (p.sync + 1), .int .i64 1, .int .i64 0, .int .i64 8, .int .i64 p.many, .int .i64 2, .int .i64 1, .int .i64 4096, .int .i64 p.place, .int .i64 2, .int .i64 0, .int .i64 (IntKind.i64.wrap (p.many - 1)), .int .i64 p.block, .int .i64 1, .int .i64 0, .int .i64 15, .int .i64 p.esi, .int .i64 2, .int .i64 0, .int .i64 65535]) := Lib.hid rfl
  rw [HD.out] at HN
  obtain ⟨z, hz⟩ : ∃ z, IntKind.i64.wrap (p.many - 1) = z := ⟨_, rfl⟩
  rw [hz] at HN
  unfold pktC at HW
  unfold pktV pktC
  clear hW1 hb1 hx1 HD
  go_enter Tryd.func45, Tryd.ntmps45
  go_upto_region 1 with fail
  rw [← HW.out]
  go_wp2
  go_ret
  exact ⟨_, rfl, HN.out, HB.out.alloc HB.out.size _⟩

set_option maxRecDepth 1000000 in
set_option maxHeartbeats 4000000 in
theorem rAnn_any {w : World} (p : Pkt) (D : Value) (h1 : 2 ≤ p.base) (h2 : p.base ≤ 9223372036854775807) : Calls Tryd.prog 46 #[pktV p D] w fun e w' => ∃ v, e = .returned v ∧ NumsAt w' v (annN p) ∧ Below w.heap.size w w' := by
  obtain ⟨W1, hW1, hb1, hx1⟩ := pkt_laid w p D
  have HB := Lib.hid hb1
  have HW := Lib.hid hW1
  obtain ⟨-, -, -, -, -, -, -, -, -, -, -, a11, a12, a13, a14, a15, a16, a17, a18, a19⟩ := hx1.cells
  have HN := Lib.hid (nums_new W1 (annN p) 117)
  have hw := IntWalk.i64_in (p.base - 1) (by omega)
  unfold pktC at HW
  unfold pktV pktC
  clear hW1 hb1 hx1
  go_enter Tryd.func46, Tryd.ntmps46
  go_upto_region 1 with fail
  rw [← HW.out]
  go_wp2
  go_ret
  exact ⟨_, rfl, HN.out, HB.out.alloc HB.out.size _⟩
end Go.Proofs.YtmihpbdgilmdiaaDoor
end

section
/- The document's lay, all: numbers' bytes, the highest one first (layer 16). -/
namespace Go.Proofs.YtmihpbdgilmdiaaDoor
open Go.RowKit Go.Extern.Stop Go.Stop Go.Extern

theorem rep_set (j x : Nat) (s : List Nat) : (List.replicate (j + 1) 0 ++ s).set j x = List.replicate j 0 ++ (x :: s) := by
  apply List.ext_getElem?
  intro k
  rw [List.getElem?_set]
  rcases Nat.lt_trichotomy k j with h | h | h
  · rw [if_neg (by omega), List.getElem?_append_left (by simp; omega), List.getElem?_append_left (by simp; omega), List.getElem?_replicate, List.getElem?_replicate, if_pos (by omega), if_pos h]
  · subst h
    rw [if_pos rfl, if_pos (by simp; omega), List.getElem?_append_right (by simp)]
    simp
  · rw [if_neg (by omega), List.getElem?_append_right (by simp; omega), List.getElem?_append_right (by simp; omega)]
    simp only [List.length_replicate]
    rw [show k - j = (k - (j + 1)) + 1 by omega]
    rfl

set_option maxRecDepth 1000000 in
set_option maxHeartbeats 4000000 in
theorem rLay_any {w : World} (n k : Nat) (hn : n ≤ 9223372036854775807) (hk : k ≤ 100) : Calls Tryd.prog 53 #[.int .i64 (n : Int), .int .i64 (k : Int)] w fun e w' =>
    ∃ g, e = .returned (.slice (some ⟨g, 0, none⟩) k k) ∧ w'.ownsRow w.heap.size 5 1 (.slice (some ⟨g, 0, none⟩) k k) k ((beN k n).map byteV) ∧ Below w.heap.size w w' := by
  obtain ⟨j0, hj0, jz0, jz1, jz2⟩ := info_parts info_u8
  have hwk : IntKind.i64.wrap ((k : Int) - 1) = (k : Int) - 1 := IntWalk.i64_in _ (by omega)
  have HB0 : Hid (∀ m, beN 0 m = []) := Lib.hid fun m => rfl
  have HBS : Hid (∀ j m, beN (j + 1) m = beN j (m / 256) ++ [m % 256]) := Lib.hid fun j m => rfl
  have HRS := Lib.hid rep_set
  go_enter Tryd.func53, Tryd.ntmps53
  go_wp2_with (at_make; refine wpList_make_full _ rfl _ _ 22 rfl w.heap.size 5 j0 (.int .u8 0) 1 Tryd.underlying22 hj0 jz0 jz1 .i64 .i64 _ _ k rfl rfl rfl rfl (by rw [jz2]; omega) (by unfold maxLen; omega) (Nat.le_refl _) ?_; intro w0 hown0 hgrow0; have hb0 := Lib.hid ((Below.refl w.heap.size w).grown hgrow0 (Nat.le_refl _) (fun k hk => by cases hk)); have ho0 := Lib.hid hown0; clear hown0 hgrow0)
  go_loopw [0, 6] (fun x i wr => ∃ (j m : Nat) (s : List Nat), j ≤ k ∧ i = .int .i64 ((j : Int) - 1) ∧ x = .int .i64 (m : Int) ∧ m ≤ 9223372036854775807 ∧ beN k n = beN j m ++ s ∧ wr.ownsRow w.heap.size 5 1 (.slice (some ⟨w.heap.size, 0, none⟩) k k) k ((List.replicate j 0 ++ s).map byteV) ∧ j + s.length = k ∧ Below w.heap.size w wr) (fun _ i _ => (intOf i + 1).toNat)
  case atStart => exact ⟨k, n, [], Nat.le_refl _, rfl, rfl, hn, by simp, by rw [List.append_nil, List.map_replicate]; have := ho0.out; rw [Nat.mul_one] at this; exact toList_madeCells_one (.int .u8 0) k ▸ this, by simp, hb0.out⟩
  case round =>
    obtain ⟨j, m, s, hj, rfl, rfl, hm, hs, hown, hl, hbel⟩ := hrel
    have HS := Lib.hid hs
    have HO := Lib.hid hown
    have HB := Lib.hid hbel
    have HL := Lib.hid hl
    by_cases hj0 : j = 0
    · subst hj0
      have d1 : decide ((0 : Int) ≤ ((0 : Nat) : Int) - 1) = false := by decide
      clear hs hown hbel hl
      go_wp2
      go_ret
      refine ⟨_, rfl, ?_, HB.out⟩
      rw [HS.out, HB0.out]
      exact HO.out
    · obtain ⟨i, rfl⟩ : ∃ i, j = i + 1 := ⟨j - 1, by omega⟩
      have d1 : decide ((0 : Int) ≤ (i : Int)) = true := decide_eq_true (by omega)
      have hi : ((i + 1 : Nat) : Int) - 1 = (i : Int) := by omega
      have hmod : (m : Int) % 256 = ((m % 256 : Nat) : Int) := by omega
      have hmodT : (m : Int).tmod 256 = ((m % 256 : Nat) : Int) := rfl
      have hdiv : (m : Int) / 256 = ((m / 256 : Nat) : Int) := by omega
      have hdivT : (m : Int).tdiv 256 = ((m / 256 : Nat) : Int) := rfl
      have hm2 : m / 256 ≤ 9223372036854775807 := by omega
      have hm3 : m % 256 < 256 := by omega
      have HN : Hid (beN k n = beN i (m / 256) ++ ((m % 256) :: s)) := Lib.hid (by rw [HS.out, HBS.out, List.append_assoc]; rfl)
      have HSET := Lib.hid (HRS.out i (m % 256) s)
      have hlen : ((List.replicate (i + 1) 0 ++ s).map byteV).length = k := by simp; omega
      have hix : i < k := by omega
      obtain ⟨y, hy⟩ : ∃ y, ((List.replicate (i + 1) 0 ++ s).map byteV)[i]? = some y := ⟨_, List.getElem?_eq_getElem (by rw [hlen]; exact hix)⟩
      have q1 : wr.cell? ⟨w.heap.size, i, none⟩ = some y := by
        rw [hown.cellAt i (by omega)]; exact hy
      have f1 : wr.frozen? ⟨w.heap.size, i, none⟩ = false := hown.frozenAt i
      rw [hi]
      clear hs hown hbel hl hy hlen
      generalize m % 256 = b at *
      generalize m / 256 = d at *
      have hcv : IntKind.u8.wrap (b : Int) = (b : Int) := by rw [IntKind.wrap_u8]; omega
      have hcm : (b : Int) % 256 = (b : Int) := by omega
      go_wp2
      go_roundw
      case rel => exact ⟨i, d, b :: s, by omega, by go_num, rfl, hm2, HN.out, by rw [← HSET.out, List.map_set]; exact (HO.out.stored i (.int .u8 b)).1, by have := HL.out; simp; omega, HB.out.setCell (p := ⟨w.heap.size, i, none⟩) (Nat.le_refl _) _⟩
      case measure => simp [intOf]
theorem own_cells {w : World} {base g n c : Nat} {e : TypeId} {xs : List Value} (h : w.ownsRow base e 1 (.slice (some ⟨g, 0, none⟩) n c) n xs) (hl : xs.length = n) : ∀ (t : Nat) (u : Value), xs[t]? = some u → w.cell? (Addr.add ⟨g, 0, none⟩ t) = some u := fun t u hu => by
  have ht : t < xs.length := (List.getElem?_eq_some_iff.1 hu).1
  rw [show Addr.add ⟨g, 0, none⟩ t = ⟨g, 0 + t, none⟩ from Go.WideShapes.add_plain .., Nat.zero_add, h.cellAt t (by omega)]
  exact hu

/-- numbers' bytes -/
def bytesN (L : List Num4) : List Nat := (L.map fun x => beN x.2.1.toNat x.1.toNat).flatten
theorem bytesN_take (L : List Num4) (j : Nat) (h : j < L.length) : bytesN (L.take (j + 1)) = bytesN (L.take j) ++ beN (L.getD j noNum).2.1.toNat (L.getD j noNum).1.toNat := by
  unfold bytesN
  rw [List.take_add_one, List.getElem?_eq_getElem h, List.map_append, List.flatten_append, List.getD_eq_getElem?_getD, List.getElem?_eq_getElem h]
  simp
theorem bytesN_octets (L : List Num4) : Octets (bytesN L) := fun x hx => by
  obtain ⟨r, hr, hx⟩ := List.mem_flatten.1 hx
  obtain ⟨y, -, rfl⟩ := List.mem_map.1 hr
  exact beN_octets _ _ x hx
/-- numbers that can be laid -/
def LayL (L : List Num4) : Prop := ∀ x ∈ L, (0 ≤ x.1 ∧ x.1 ≤ 9223372036854775807) ∧ 1 ≤ x.2.1 ∧ x.2.1 ≤ 8
theorem layL_get {L : List Num4} (h : LayL L) {j : Nat} (hj : j < L.length) : (0 ≤ (L.getD j noNum).1 ∧ (L.getD j noNum).1 ≤ 9223372036854775807) ∧ 1 ≤ (L.getD j noNum).2.1 ∧ (L.getD j noNum).2.1 ≤ 8 := by
  rw [List.getD_eq_getElem?_getD, List.getElem?_eq_getElem hj]
  exact h _ (List.getElem_mem hj)
theorem bytesN_le {L : List Num4} (h : LayL L) (j : Nat) : (bytesN (L.take j)).length ≤ 8 * j := by
  induction j with
  | zero => simp [bytesN]
  | succ j ih =>
    by_cases hj : j < L.length
    · rw [bytesN_take L j hj, List.length_append, beN_length]
      have := (layL_get h hj).2
      omega
    · rw [List.take_of_length_le (by omega)]
      rw [List.take_of_length_le (by omega)] at ih
      omega

set_option maxRecDepth 1000000 in
set_option maxHeartbeats 4000000 in
theorem rAll_any {w : World} (v : Value) (L : List Num4) (h : NumsAt w v L) (hL : L.length ≤ 100) (hl : LayL L) : Calls Tryd.prog 52 #[v] w fun e w' =>
    ∃ v', e = .returned v' ∧ w'.ownsRow w.heap.size 5 1 v' (bytesN L).length ((bytesN L).map byteV) ∧ Below w.heap.size w w' := by
  obtain ⟨i0, hi0, hz0, hz1, hz2⟩ := info_parts info_u8
  obtain ⟨b, rfl, hc⟩ := h
  have HC := Lib.hid hc
  have HOS := Lib.hid (World.ownsRow_made (base := w.heap.size) (e := 5) (size := 1) w #[] 0 (Nat.le_refl _) (by decide) rfl)
  have HBe := Lib.hid ((Below.refl w.heap.size w).alloc (Nat.le_refl _) (.cells #[] 5))
  have HT0 : Hid (bytesN (L.take 0) = []) := Lib.hid rfl
  have HTS : Hid (∀ j, j < L.length → bytesN (L.take (j + 1)) = bytesN (L.take j) ++ beN (L.getD j noNum).2.1.toNat (L.getD j noNum).1.toNat) := Lib.hid (bytesN_take L)
  have HTE : Hid (bytesN (L.take L.length) = bytesN L) := Lib.hid (by rw [List.take_length])
  have HLE : Hid (∀ j, (bytesN (L.take j)).length ≤ 8 * j) := Lib.hid (bytesN_le hl)
  have HLG : Hid (∀ j, j < L.length → (0 ≤ (L.getD j noNum).1 ∧ (L.getD j noNum).1 ≤ 9223372036854775807) ∧ 1 ≤ (L.getD j noNum).2.1 ∧ (L.getD j noNum).2.1 ≤ 8) := Lib.hid fun j hj => layL_get hl hj
  clear hc hl
  go_enter Tryd.func52, Tryd.ntmps52
  go_wp2_with fail
  go_loopw [3, 4] (fun x i wr => ∃ j : Nat, j ≤ L.length ∧ i = .int .i64 (j : Int) ∧ wr.ownsRow w.heap.size 5 1 x (bytesN (L.take j)).length ((bytesN (L.take j)).map byteV) ∧ Below w.heap.size w wr) (fun _ i _ => L.length - (intOf i).toNat)
  case atStart => exact ⟨0, by omega, rfl, by rw [HT0.out]; exact HOS.out, HBe.out⟩
  case round =>
    obtain ⟨j, hj, rfl, hown, hbel⟩ := hrel
    have HB := Lib.hid hbel
    have HO := Lib.hid hown
    by_cases hlt : j < L.length
    · have d1 : decide ((j : Int) < (L.length : Int)) = true := decide_eq_true (by omega)
      obtain ⟨q0, q1, q2, q3⟩ := HC.out j hlt
      have hlb := World.block_lt_of_cell? w _ q0
      have hlb2 : b < w.heap.size := hlb
      obtain ⟨⟨n0, n1⟩, n2, n3⟩ := HLG.out j hlt
      have hst := HTS.out j hlt
      have hle := HLE.out j
      obtain ⟨n, hn⟩ : ∃ n : Nat, (L.getD j noNum).1 = (n : Int) := ⟨(L.getD j noNum).1.toNat, by omega⟩
      obtain ⟨k, hk⟩ : ∃ n : Nat, (L.getD j noNum).2.1 = (n : Int) := ⟨(L.getD j noNum).2.1.toNat, by omega⟩
      rw [hn, hk, Int.toNat_natCast, Int.toNat_natCast] at hst
      have HST := Lib.hid hst
      have HLN : Hid ((beN k n).length = k) := Lib.hid (beN_length k n)
      have hk8 : k ≤ 8 := by omega
      have hk1 : 1 ≤ k := by omega
      have hn63 : n ≤ 9223372036854775807 := by omega
      have q0' : w.cell? ⟨b, j * 4, none⟩ = some (.int .i64 (n : Int)) := by rw [q0, hn]
      have q1' : w.cell? ⟨b, j * 4 + 1, none⟩ = some (.int .i64 (k : Int)) := by rw [q1, hk]
      have HCV : Hid (∀ V, Below w.heap.size w V → V.cell? ⟨b, j * 4, none⟩ = some (.int .i64 (n : Int)) ∧ V.cell? ⟨b, j * 4 + 1, none⟩ = some (.int .i64 (k : Int))) := Lib.hid fun V hV => ⟨(hV.cell (p := ⟨b, j * 4, none⟩) hlb2).trans q0', (hV.cell (p := ⟨b, j * 4 + 1, none⟩) hlb2).trans q1'⟩
      have HLAY : Hid (∀ V : World, Calls Tryd.prog 53 #[.int .i64 (n : Int), .int .i64 (k : Int)] V fun e w' => ∃ g, e = .returned (.slice (some ⟨g, 0, none⟩) k k) ∧ w'.ownsRow V.heap.size 5 1 (.slice (some ⟨g, 0, none⟩) k k) k ((beN k n).map byteV) ∧ Below V.heap.size V w') := Lib.hid fun V => rLay_any n k hn63 (by omega)
      clear q0 q1 q2 q3 hlb n0 n1 n2 n3 hst hn hk q0' q1' hown hbel
      generalize hbs : beN k n = bs at *
      generalize bytesN (L.take j) = F at *
      go_upto_region 5 with fail
      have hbd := HB.out.drew
      obtain ⟨p0, p1⟩ := HCV.out _ hbd
      have HBD := Lib.hid hbd
      have HOD := Lib.hid (HO.out.drew)
      obtain ⟨af, cf, hfe, -, -⟩ := own_open HO.out
      subst hfe
      clear hbd
      go_region_law (first
        | (refine step_append_lies _ rfl (.tmp 12) (.tmp 23) 22 rfl w.heap.size 5 i0 (.int .u8 0) 1 1 Tryd.underlying22 hi0 hz0 hz1 hz2 rfl (by decide) (.slice af F.length cf) F.length (F.map byteV) (by simp [Act.eval]) HO6.out ⟨g, 0, none⟩ k k (bs.map byteV) (by simp [Act.eval]) (by rw [List.length_map, HLN.out, Nat.mul_one]) HN6.out (fun y hy => by obtain ⟨z, -, rfl⟩ := List.mem_map.1 hy; rfl) (by omega) (by unfold maxLen; omega) (by omega) HB6.out.size _ rfl ?_; intro g2 q2 w7 hown1 hgrow1 _ _; have HB7 := Lib.hid (HB6.out.grown hgrow1 HB6.out.size (fun k hk => (HO6.out.lt k hk).1)); have HO7 : Hid (w7.ownsRow w.heap.size 5 1 (.slice (some ⟨g2, 0, none⟩) (F.length + k) q2) (F ++ bs).length ((F ++ bs).map byteV)) := Lib.hid (by rw [List.length_append, HLN.out, List.map_append]; exact hown1); clear hown1 hgrow1)
        | (go_simp; go_at_call 53; (with_reducible refine (HLAY.out _).mono ?_); rintro e w6 ⟨g, rfl, ho6, hb6⟩; have HB6 := Lib.hid (HBD.out.trans (hb6.mono HBD.out.size)); have HO6 := Lib.hid (owns_kept HOD.out hb6); have HN6 : Hid (∀ t u, (bs.map byteV)[t]? = some u → w6.cell? (Addr.add ⟨g, 0, none⟩ t) = some u) := Lib.hid (own_cells ho6 (by rw [List.length_map, HLN.out])); obtain ⟨p0, p1⟩ := HCV.out _ HB6.out; clear ho6 hb6))
      all_goals
        rw [← HST.out] at HO7
        go_wp2
        go_roundw
        case rel => exact ⟨j + 1, hlt, by go_num, HO7.out, HB7.out⟩
        case measure => simp [intOf]; omega
    · obtain rfl : j = L.length := by omega
      have d1 : decide ((L.length : Int) < (L.length : Int)) = false := decide_eq_false (by omega)
      rw [HTE.out] at HO
      obtain ⟨af, cf, hfe, -, -⟩ := own_open HO.out
      subst hfe
      clear hown hbel
      go_wp2
      go_ret
      exact ⟨_, rfl, HO.out, HB.out⟩
end Go.Proofs.YtmihpbdgilmdiaaDoor
end
