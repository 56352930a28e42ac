import Derived.Deep.LoopGhost
import Derived.WalkMore
import Derived.Test.YtkfimdpcadbcpaaGreatDoorA04
import Derived.Test.YtkfimdpcadbcpaaGreatDoorA01
import Derived.OwnWalk
import Derived.WalkSpells
import Derived.WalkLawsBesides
import Derived.Test.YtkfimdpcadbcpaaGreatDoorA02
import Derived.Test.YtkfimdpcadbcpaaGreatDoorA03
import Derived.Test.YtkfimdpcadbcpaaGreatDoorA07
import Derived.Deep.RegionHeld3
import Derived.Deep.CutBlock
import Derived.Deep.QuietTactic
import Derived.Test.YtkfimdpcadbcpaaGreatDoorA05
set_option linter.unusedSimpArgs false
set_option linter.unusedVariables false
set_option maxRecDepth 1000000
set_option maxHeartbeats 8000000
namespace Go.Proofs.YtkfimdpcadbcpaaGreatDoor
section
open Go.RowKit Go.Extern.Stop Go.Stop Go.Extern
def PrimeSays (n : Int) (w : World) (e : Ending) (w' : World) : Prop := ∃ p : Nat, e = .returned (.int .i64 p) ∧ LeastP n p ∧ w = w'
theorem zLM {c d : Nat} (hc : c ≤ 65537) (h : d * d ≤ c) : d ≤ 256 := by
  rcases Nat.lt_or_ge 256 d with h1 | h1
  · have := Nat.mul_le_mul h1 h1
    omega
  · exact h1
theorem sq_le {d : Nat} (h : d ≤ 257) : d * d ≤ 66049 := Nat.mul_le_mul h h
theorem zEK {w : World} (n : Int) (hn : n ≤ 65537) (hn0 : I64 n) :
    Calls Tryz.prog 118 #[.int .i64 n] w (PrimeSays n w) := by
  obtain ⟨c0, hc1, hc2, hc3, hc4, hc5⟩ : ∃ c0 : Nat, (n < 2 ∧ c0 = 2 ∨ 2 ≤ n ∧ n = (c0 : Int)) ∧ 2 ≤ c0 ∧ c0 ≤ 65537 ∧ n ≤ c0 ∧ ∀ q : Nat, n ≤ q → q < c0 → ¬ IsP q := by
    refine ⟨(max n 2).toNat, by omega, by omega, by omega, by omega, fun q h1 h2 h3 => ?_⟩
    have := h3.1
    omega
  have HQ := lhd hc5
  clear hc5
  rcases hc1 with ⟨h, h2⟩ | ⟨h, h2⟩
  all_goals
    have H2 := lhd h2
    clear h2
    go_enter Tryz.func118, Tryz.ntmps118
    go_wp2_with fail
    go_step3
    go_wp2_with fail
    go_step3
    go_wp2_with fail
    go_loopg [3] 65537 (fun gk i wr => ∃ c : Nat, i = .int .i64 c ∧ 2 ≤ c ∧ c ≤ 65537 ∧ n ≤ c ∧ (∀ q : Nat, n ≤ q → q < c → ¬ IsP q) ∧ 65537 - c ≤ gk ∧ w = wr)
    case atStart => exact ⟨c0, by rw [H2.out]; try rfl, hc2, hc3, hc4, HQ.out, by omega, rfl⟩
    case round =>
      clear hc2 hc3 hc4 HQ H2
      obtain ⟨c, rfl, h2, h65, hnc, hq, hg, rfl⟩ := hrel
      have HQ := lhd hq
      obtain ⟨go, rfl⟩ : ∃ go, go = gk := ⟨gk, rfl⟩
      have HG := lhd hg
      clear hq hg
      go_wp2_with fail
      go_loopg [3, 4] 257 (fun gd i j wr => ∃ d : Nat, i = .int .i64 c ∧ j = .int .i64 d ∧ 2 ≤ d ∧ d ≤ 257 ∧ (∀ e, 2 ≤ e → e < d → c % e ≠ 0) ∧ 257 - d ≤ gd ∧ w = wr)
      case atStart => exact ⟨2, rfl, rfl, by omega, by omega, fun e h1 h3 => by omega, by omega, rfl⟩
      case round =>
        obtain ⟨d, rfl, rfl, hd2, hd257, hdiv, hgd, rfl⟩ := hrel
        have HD := lhd hdiv
        have HGD := lhd hgd
        clear hdiv hgd
        have hsq := sq_le hd257
        have hsqI : (d : Int) * (d : Int) ≤ 66049 := by rw [← Int.natCast_mul]; omega
        have hsq0 : 0 ≤ (d : Int) * (d : Int) := by rw [← Int.natCast_mul]; omega
        have hd0 : (d : Int) ≠ 0 := by omega
        have hd1 : ((d : Int) == 0) = false := by simpa using hd0
        by_cases hdd : d * d ≤ c
        · have hddI : (d : Int) * (d : Int) ≤ (c : Int) := by rw [← Int.natCast_mul]; omega
          have hdec : decide ((d : Int) * (d : Int) ≤ (c : Int)) = true := decide_eq_true hddI
          have hd256 := zLM h65 hdd
          by_cases hm : c % d = 0
          · have hNP : Hid (¬ IsP c) := lhd (zJC hd2 (by
              have : 2 * d ≤ d * d := Nat.mul_le_mul_right d hd2
              omega) hm)
            have hmI : ((c : Int) % (d : Int)) = 0 := by rw [← Int.natCast_emod, hm]; rfl
            have hmB : ((c : Int) % (d : Int) == 0) = true := by simpa using hmI
            have hc65 : c < 65537 := by
              rcases Nat.lt_or_ge c 65537 with h' | h'
              · exact h'
              · obtain rfl : c = 65537 := by omega
                exact absurd zNt hNP.out
            clear hm hmI hddI hdd hsq
            obtain ⟨g', rfl⟩ : ∃ g', go = g' + 1 := ⟨go - 1, by have := HG.out; omega⟩
            go_wp2_with fail
            go_roundg g'
            case measure => omega
            case rel => exact ⟨c + 1, by go_num, by omega, by omega, by omega, fun q h1 h3 => by
              rcases (by omega : q < c ∨ q = c) with h4 | rfl
              · exact HQ.out q h1 h4
              · exact hNP.out, by have := HG.out; omega, rfl⟩
          · have hmI : ((c : Int) % (d : Int)) ≠ 0 := by rw [← Int.natCast_emod]; omega
            have hmB : ((c : Int) % (d : Int) == 0) = false := by simpa using hmI
            have HM := lhd hm
            obtain ⟨g', rfl⟩ : ∃ g', gk = g' + 1 := ⟨gk - 1, by have := HGD.out; omega⟩
            clear hm hmI hddI hdd hsq
            go_wp2_with fail
            go_roundg g'
            case measure => omega
            case rel => exact ⟨d + 1, rfl, by go_num, by omega, by omega, fun e h1 h3 => by
              rcases (by omega : e < d ∨ e = d) with h4 | rfl
              · exact HD.out e h1 h4
              · exact HM.out, by have := HGD.out; omega, rfl⟩
        · have hddI : ¬ (d : Int) * (d : Int) ≤ (c : Int) := by rw [← Int.natCast_mul]; omega
          have hdec : decide ((d : Int) * (d : Int) ≤ (c : Int)) = false := decide_eq_false hddI
          have HP : Hid (IsP c) := lhd (zAX h2 d HD.out (by omega))
          clear hddI hdd hsq
          go_wp2_with fail
          try rw [Exit.noGoto_ret]
          go_ret
          exact ⟨c, rfl, ⟨HP.out, hnc, HQ.out⟩, rfl⟩
end

section
open Go.RowKit Go.Extern.Stop Go.Stop Go.Extern
def rowC (j : Nat) : List Int := (List.range (j + 1)).map fun i => ((ch j i : Nat) : Int)
theorem zCf (j : Nat) : (rowC j).length = j + 1 := by simp [rowC]
theorem zCI (j i : Nat) (h : i ≤ j) : (rowC j)[i]? = some ((ch j i : Nat) : Int) := by
  have : i < j + 1 := by omega
  simp [rowC, List.getElem?_range this]
def nxt (j t i : Nat) : Int := (if i = 0 then 0 else ((ch j (i - 1) : Nat) : Int)) + (if i < t ∧ i ≤ j then ((ch j i : Nat) : Int) else 0)
def nxtL (j t : Nat) : List Int := (List.range (j + 2)).map (nxt j t)
theorem zB7 (j t : Nat) : (nxtL j t).length = j + 2 := by simp [nxtL]
theorem zBX (j t i : Nat) (h : i < j + 2) : (nxtL j t)[i]? = some (nxt j t i) := by
  simp [nxtL, List.getElem?_range h]
theorem zL1 (j i : Nat) : nxt j i i = if i = 0 then 0 else ((ch j (i - 1) : Nat) : Int) := by
  unfold nxt; rw [if_neg (by omega : ¬ (i < i ∧ i ≤ j))]; omega
theorem zHl (j : Nat) : splice (List.replicate (j + 2) 0) 1 (rowC j) = nxtL j 0 := by
  apply List.ext_getElem?
  intro i
  have hl : (splice (List.replicate (j + 2) 0) 1 (rowC j)).length = j + 2 := by rw [length_splice _ _ _ (by rw [zCf]; simp; omega)]; simp
  rcases Nat.lt_or_ge i (j + 2) with h | h
  · rw [zBX j 0 i h]
    unfold nxt
    rw [if_neg (by omega : ¬ (i < 0 ∧ i ≤ j))]
    unfold splice
    cases i with
    | zero => simp
    | succ i =>
      rw [List.getElem?_append_right (by simp), List.getElem?_append_left (by rw [zCf]; simp; omega)]
      simp only [List.length_take, List.length_replicate]
      rw [show i + 1 - min 1 (j + 2) = i by omega, zCI j i (by omega)]
      simp
  · rw [List.getElem?_eq_none (by omega), List.getElem?_eq_none (by rw [zB7]; omega)]
theorem zKh (j t : Nat) (h : t ≤ j) : (nxtL j t).set t (nxt j t t + ((ch j t : Nat) : Int)) = nxtL j (t + 1) := by
  apply List.ext_getElem?
  intro i
  rw [List.getElem?_set]
  rcases Nat.lt_or_ge i (j + 2) with hi | hi
  · rw [zBX j t i hi, zBX j (t + 1) i hi]
    by_cases e : t = i
    · subst e
      rw [if_pos rfl, if_pos (by rw [zB7]; omega), zL1]
      unfold nxt
      rw [if_pos (by omega : t < t + 1 ∧ t ≤ j)]
    · rw [if_neg e]
      unfold nxt
      congr 2
      by_cases h2 : i < t
      · by_cases h3 : i ≤ j
        · rw [if_pos (by omega), if_pos (by omega)]
        · rw [if_neg (by omega), if_neg (by omega)]
      · rw [if_neg (by omega), if_neg (by omega)]
  · rw [List.getElem?_eq_none (by rw [zB7]; omega), List.getElem?_eq_none (by rw [zB7]; omega), if_neg (by omega)]
theorem zLH (j : Nat) : nxtL j (j + 1) = rowC (j + 1) := by
  apply List.ext_getElem?
  intro i
  rcases Nat.lt_or_ge i (j + 2) with hi | hi
  · rw [zBX j _ i hi, zCI (j + 1) i (by omega)]
    unfold nxt
    congr 1
    cases i with
    | zero => rw [if_pos rfl, if_pos (by omega), zEy, zEy]; rfl
    | succ i =>
      rw [if_neg (by omega), zGv, show i + 1 - 1 = i by omega]
      by_cases h2 : i + 1 ≤ j
      · rw [if_pos (by omega)]; omega
      · rw [if_neg (by omega), zIR j (i + 1) (by omega)]; rfl
  · rw [List.getElem?_eq_none (by rw [zB7]; omega), List.getElem?_eq_none (by rw [zCf]; omega)]
theorem zJw (j t : Nat) (hj : j ≤ 60) : 0 ≤ nxt j t t ∧ nxt j t t ≤ 283726776524341248 := by
  rw [zL1]
  split
  · omega
  · have := zGz j (t - 1) hj
    omega
def RowIs (w : World) (B g : Nat) (xs : List Int) : Prop := B ≤ g ∧ w.heap[g]? = some (.cells (xs.map intV).toArray 3 (0, 0))
theorem RowIs.cell {w : World} {B g i : Nat} {xs : List Int} {x : Int} (h : RowIs w B g xs) (hi : xs[i]? = some x) : w.cell? ⟨g, i, none⟩ = some (.int .i64 x) :=
  zAa h.2 (by simp [hi, intV])
theorem RowIs.frozen {w : World} {B g i : Nat} {xs : List Int} (h : RowIs w B g xs) : w.frozen? ⟨g, i, none⟩ = false := zAb h.2
theorem RowIs.lt {w : World} {B g : Nat} {xs : List Int} (h : RowIs w B g xs) : g < w.heap.size := (Array.getElem?_eq_some_iff.1 h.2).1
theorem RowIs.mono {w w' : World} {B g : Nat} {xs : List Int} (h : RowIs w B g xs) (hb : Below w.heap.size w w') : RowIs w' B g xs := ⟨h.1, (hb.block g h.lt).trans h.2⟩
theorem RowIs.set {w : World} {B g : Nat} {xs : List Int} (h : RowIs w B g xs) (i : Nat) (x : Int) : RowIs (w.setCell ⟨g, i, none⟩ (.int .i64 x)) B g (xs.set i x) := by
  refine ⟨h.1, ?_⟩
  rw [zAc h.2, List.map_set]
  simp [intV]
theorem RowIs.other {w : World} {B g g' : Nat} {xs : List Int} (h : RowIs w B g xs) (hne : g ≠ g') (i : Nat) (u : Value) : RowIs (w.setCell ⟨g', i, none⟩ u) B g xs := by
  refine ⟨h.1, ?_⟩
  rw [← h.2]
  simp only [World.setCell, Array.getElem?_modify]
  rw [if_neg (by simpa using fun e => hne e.symm)]
theorem zHU {w : World} (n k : Nat) (hn : n ≤ 60) (hk : k ≤ n) : Calls Tryz.prog 119 #[.int .i64 (n : Int), .int .i64 (k : Int)] w fun e w' => e = .returned (.int .i64 ((ch n k : Nat) : Int)) ∧ Below w.heap.size w w' := by
  obtain ⟨i0, hi, hz0, hz1, hz2⟩ := info_parts zAR
  go_enter Tryz.func119, Tryz.ntmps119
  go_wp2_with fail
  go_loopw [5, 11] (fun v i wr => ∃ j : Nat, j ≤ n ∧ i = .int .i64 (j : Int) ∧ (∃ g m : Nat, m = j + 1 ∧ v = .slice (some ⟨g, 0, none⟩) m m ∧ RowIs wr w.heap.size g (rowC j)) ∧ Below w.heap.size w wr) (fun _ i _ => n - (intOf i).toNat)
  case atStart =>
    refine ⟨0, by omega, rfl, ⟨w.heap.size, 1, rfl, rfl, Nat.le_refl _, ?_⟩, (Below.refl _ _).alloc (Nat.le_refl _) _⟩
    exact heap_alloc_new w _
  case round =>
    obtain ⟨j, hj, rfl, ⟨g, m, hm, rfl, hrow⟩, hbel⟩ := hrel
    have HR := lhd hrow
    have HB := lhd hbel
    have hsz := hbel.size
    have HM := lhd hm
    have hmb : m ≤ 61 := by omega
    have hglt := hrow.lt
    clear hrow hbel hm
    by_cases hlt : j < n
    · have hm0 : ¬ m = 0 := by have := HM.out; omega
      have hm1 : ¬ m + 1 = 1 := by omega
      have HSRC : Hid (∀ w0, Below wr.heap.size wr w0 → ∀ (i : Nat) (u : Value), ((rowC j).map intV)[i]? = some u → w0.cell? ((⟨g, 0, none⟩ : Addr).add i) = some u) := lhd fun w0 hb i u hu => by
        rw [Go.WideShapes.add_plain, Nat.zero_add]
        exact zAa (HR.out.mono hb).2 (by simpa using hu)
      go_wp2_with (first
        | (at_make; refine wpList_make_full _ rfl _ _ 32 rfl w.heap.size 3 i0 (.int .i64 0) 1 Tryz.underlying32 hi hz0 hz1 .i64 .i64 _ _ (m + 1) rfl rfl (by omega) (by omega) (by rw [hz2]; omega) (by unfold maxLen; omega) hsz ?_; intro w0 hown0 hgrow0; have hb0 := lhd ((Below.refl wr.heap.size wr).grown hgrow0 (Nat.le_refl _) (fun k hk => by cases hk)); have ho0 := lhd (toList_madeCells_one (.int .i64 0) (m + 1) ▸ (Nat.mul_one (m + 1) ▸ (zAQ hown0).2.2)); clear hown0 hgrow0)
        | ((with_reducible show wpList _ _ _ (⟨some 20, _, _, _, _, _⟩ :: _) _ _); refine wpList_copy_splice rfl (.tmp 18) (.tmp 19) 32 32 rfl 3 Tryz.underlying32 (by rw [hi]; exact congrArg some hz1) (some ⟨wr.heap.size, 1, none⟩) (some ⟨g, 0, none⟩) m m m m rfl rfl wr.heap.size 1 (List.replicate (m + 1) (intV 0)) 3 ho0.out ((rowC j).map intV) (by rw [List.length_map, zCf, ← HM.out]; simp) (fun hp => ⟨rfl, ⟨g, 0, none⟩, rfl, HSRC.out w0 hb0.out⟩) (by rw [List.length_map, zCf, List.length_replicate]; have := HM.out; omega) (fun u hu => by obtain ⟨y, _, rfl⟩ := List.mem_map.1 hu; rfl) wr.heap.size wr hb0.out (Nat.le_refl _) ?_; intro w2 hg2 hb2; have HG2 := hg2; have HB2 := lhd hb2; clear hg2 hb2))
      have hrep : List.replicate (m + 1) (intV 0) = (List.replicate (j + 2) 0).map intV := by rw [List.map_replicate, HM.out]
      have hspl : ∀ (L cs : List Int) (o : Nat), splice (L.map intV) o (cs.map intV) = (splice L o cs).map intV := fun L cs o => by simp [splice]
      have h2 := HG2.out
      rw [hrep, hspl, zHl] at h2
      have HR2 : Hid (RowIs w2 w.heap.size wr.heap.size (nxtL j 0)) := lhd ⟨hsz, h2⟩
      have HR1 := lhd (HR.out.mono HB2.out)
      have HBB := lhd (HB.out.trans (HB2.out.mono hsz))
      clear hrep hspl h2 HG2 HB2 ho0 hb0 HSRC HR HB
      obtain ⟨wo, hwo⟩ : ∃ wo, wo = wr := ⟨_, rfl⟩
      subst hwo
      generalize wo.heap.size = G at *
      go_loopw [23] (fun i wy => ∃ t : Nat, t ≤ m ∧ i = .int .i64 (t : Int) ∧ (RowIs wy w.heap.size G (nxtL j t) ∧ RowIs wy w.heap.size g (rowC j)) ∧ Below w.heap.size w wy) (fun i _ => m - (intOf i).toNat)
      case atStart => exact ⟨0, Nat.zero_le _, rfl, ⟨HR2.out, HR1.out⟩, HBB.out⟩
      case round =>
        clear HR2 HR1 HBB
        obtain ⟨t, ht, rfl, ⟨hr2, hr1⟩, hbel⟩ := hrel
        have HB := lhd hbel
        have HR2 := lhd hr2
        have HR1 := lhd hr1
        clear hr1 hr2 hbel
        by_cases hlt2 : t < m
        · have htj : t ≤ j := by have := HM.out; omega
          have hx1 := HR1.out.cell (zCI j t htj)
          have hx2 := HR2.out.cell (zBX j t t (by omega))
          have hf2 : wr.frozen? ⟨G, t, none⟩ = false := HR2.out.frozen
          have hb1 := zGz j t (by omega)
          have hb2 := zJw j t (by omega)
          have HSET := lhd (zKh j t htj)
          have HNE : Hid (g ≠ G) := lhd (by omega)
          clear htj
          generalize nxt j t t = Y at *
          generalize ch j t = X at *
          go_wp2
          go_roundw
          case rel => exact ⟨t + 1, by omega, by go_num, ⟨by rw [← HSET.out]; exact HR2.out.set t _, HR1.out.other HNE.out t _⟩, HB.out.setCell (p := ⟨G, t, none⟩) HR2.out.1 _⟩
          case measure => simp [intOf]; omega
        · have htm : t = m := by omega
          have HE : Hid (nxtL j t = rowC (j + 1)) := lhd (by rw [htm, HM.out, zLH])
          clear htm
          go_wp2
          go_roundw
          case rel => exact ⟨j + 1, by omega, by go_num, ⟨G, m + 1, by have := HM.out; omega, rfl, by rw [← HE.out]; exact HR2.out⟩, HB.out⟩
          case measure => simp [intOf]; omega
    · have hkj : k ≤ j := by omega
      have hx := HR.out.cell (zCI j k hkj)
      have HJ : Hid (ch n k = ch j k) := lhd (by rw [show j = n by omega])
      have hkm : k < m := by have := HM.out; omega
      go_wp2
      go_ret
      exact ⟨by rw [HJ.out]; rfl, HB.out⟩
end

section
open Go.RowKit Go.Extern.Stop Go.Stop Go.Extern
def nameOf : ByteArray := ⟨#[112, 97, 114, 97, 109, 115, 46, 79, 102]⟩
def NoSays (k : Int) (c : ByteArray) (v : Value) (w : World) (e : Ending) (w' : World) : Prop := ∃ E, e = .returned (.tuple #[v, E]) ∧ ErrAns k c w' E ∧ Below w.heap.size w w'
end

section
open Go.RowKit Go.Extern.Stop Go.Stop Go.Extern
theorem zAg {P : Program} {fn : Func} {p t : Tmp} {ty : TypeId} (h : fn.results = #[.cell p ty, .tmp t]) (tmps : Array Value) (w : World) (g : Nat) (tt : TypeId) (cs : Array Value) (fr : Nat × Nat) (d : TypeDesc)
    (hp : tmps.getD p undef = .pointer (some ⟨g, 0, none⟩)) (hg : w.heap[g]? = some (.cells cs tt fr))
    (hu : P.underlying ty = some d) (hd : (match d with | .struct _ | .array _ _ => true | _ => false) = true) (hi : (P.info? ty).map (·.size) = some cs.size) :
    (results fn tmps).run P w = .ok (.tuple #[.agg cs, tmps.getD t undef]) w := by
  have hp' : tmps[p]?.getD undef = .pointer (some ⟨g, 0, none⟩) := by simpa using hp
  simp [results, h, hp', asAddr, run_loadVar_row w g tt ty cs fr d hg hu hd hi]
theorem zA2 {P : Program} {fn : Func} {p : Tmp} {ty : TypeId} (h : fn.results = #[.cell p ty]) (tmps : Array Value) (w : World) (g : Nat) (tt : TypeId) (cs : Array Value) (fr : Nat × Nat) (d : TypeDesc)
    (hp : tmps.getD p undef = .pointer (some ⟨g, 0, none⟩)) (hg : w.heap[g]? = some (.cells cs tt fr))
    (hu : P.underlying ty = some d) (hd : (match d with | .struct _ | .array _ _ => true | _ => false) = true) (hi : (P.info? ty).map (·.size) = some cs.size) :
    (results fn tmps).run P w = .ok (.agg cs) w := by
  have hp' : tmps[p]?.getD undef = .pointer (some ⟨g, 0, none⟩) := by simpa using hp
  simp [results, h, hp', asAddr, run_loadVar_row w g tt ty cs fr d hg hu hd hi]
def parC (k s h l p : Int) : Array Value := #[.int .i64 k, .int .i64 s, .int .i64 h, .int .i64 l, .int .i64 p]
def parV (k s h l p : Int) : Value := .agg (parC k s h l p)
def OfBox (W : World) (g : Nat) : Prop := W.heap[g]? = some (.cells (parC 0 0 0 0 0) 95 (0, 0))
theorem OfBox.lt {W : World} {g : Nat} (h : OfBox W g) : g < W.heap.size := (Array.getElem?_eq_some_iff.1 h).1
theorem OfBox.mono {W W' : World} {g : Nat} (h : OfBox W g) (hb : Below W.heap.size W W') : OfBox W' g := (hb.block g h.lt).trans h
theorem OfBox.done {W : World} {g : Nat} (h : OfBox W g) (a b c d e : Value) : (((((W.setCell ⟨g, 0, none⟩ a).setCell ⟨g, 1, none⟩ b).setCell ⟨g, 2, none⟩ c).setCell ⟨g, 3, none⟩ d).setCell ⟨g, 4, none⟩ e).heap[g]? = some (.cells #[a, b, c, d, e] 95 (0, 0)) :=
  zAc (zAc (zAc (zAc (zAc h))))
theorem OfBox.below {W w : World} {B g : Nat} (hb : Below B w W) (hg : B ≤ g) (a b c d e : Value) : Below B w (((((W.setCell ⟨g, 0, none⟩ a).setCell ⟨g, 1, none⟩ b).setCell ⟨g, 2, none⟩ c).setCell ⟨g, 3, none⟩ d).setCell ⟨g, 4, none⟩ e) :=
  ((((hb.setCell (p := ⟨g, 0, none⟩) hg a).setCell (p := ⟨g, 1, none⟩) hg b).setCell (p := ⟨g, 2, none⟩) hg c).setCell (p := ⟨g, 3, none⟩) hg d).setCell (p := ⟨g, 4, none⟩) hg e
theorem OfBox.err {W : World} {g : Nat} {k : Int} {n : ByteArray} {E : Value} (h : OfBox W g) (he : ErrAns k n W E) (a b c d e : Value) : ErrAns k n (((((W.setCell ⟨g, 0, none⟩ a).setCell ⟨g, 1, none⟩ b).setCell ⟨g, 2, none⟩ c).setCell ⟨g, 3, none⟩ d).setCell ⟨g, 4, none⟩ e) E :=
  zBt he fun x s hc => by
    have n1 : x ≠ g := by
      rintro rfl
      rw [zAa (j := 0) (u := .int .i64 0) h rfl] at hc
      cases hc
    rw [Below.heap_setCell _ _ _ _ n1, Below.heap_setCell _ _ _ _ n1, Below.heap_setCell _ _ _ _ n1, Below.heap_setCell _ _ _ _ n1, Below.heap_setCell _ _ _ _ n1]
def OfSays (k : Nat) (w : World) (e : Ending) (w' : World) : Prop := ∃ s h l p : Nat, e = .returned (.tuple #[parV k s h l p, .nilIface]) ∧ OfP k s h l p ∧ Below w.heap.size w w'
theorem Of_in {w : World} (k : Nat) (hk1 : 1 ≤ k) (hk : k ≤ 128) : Calls Tryz.prog 89 #[.int .i64 (k : Int)] w (OfSays k w) := by
  obtain ⟨w0, hw0, hb0, hbx⟩ : ∃ w0, w0 = w.alloc (.cells #[.int .i64 0, .int .i64 0, .int .i64 0, .int .i64 0, .int .i64 0] 95) ∧ Below w.heap.size w w0 ∧ OfBox w0 w.heap.size := ⟨_, rfl, (Below.refl _ _).alloc (Nat.le_refl _) _, heap_alloc_new w _⟩
  have HW0 := lhd hw0
  have HB0 := lhd hb0
  have HBX := lhd hbx
  have e1 : decide ((k : Int) < 1) = false := decide_eq_false (by omega)
  have e2 : decide ((128 : Int) < (k : Int)) = false := decide_eq_false (by omega)
  have e3 : decide (128 < k) = false := decide_eq_false (by omega)
  clear hw0 hb0 hbx
  go_enter Tryz.func89, Tryz.ntmps89
  go_wp2_with fail
  rw [← HW0.out]
  go_loopw [4] (fun i wr => ∃ x : Nat, i = .int .i64 (x : Int) ∧ 1 ≤ x ∧ x ≤ 17 ∧ (∀ y, 1 ≤ y → y < x → y * (y - 1) < 2 * k) ∧ w0 = wr) (fun i _ => 17 - (intOf i).toNat)
  case atStart => exact ⟨1, rfl, by omega, by omega, fun y h1 h2 => by omega, rfl⟩
  case round =>
    obtain ⟨x, rfl, h1, h17, hx, rfl⟩ := hrel
    have HX := lhd hx
    clear hx
    have hI : (x : Int) * ((x : Int) - 1) = ((x * (x - 1) : Nat) : Int) := by rw [Int.natCast_mul]; congr 1; omega
    have hm : x * (x - 1) ≤ 17 * 16 := Nat.mul_le_mul h17 (by omega)
    have hm1 : (x : Int) * ((x : Int) - 1) ≤ 272 := by rw [hI]; omega
    have hm0 : 0 ≤ (x : Int) * ((x : Int) - 1) := by rw [hI]; omega
    by_cases h : x * (x - 1) < 2 * k
    · have d1 : decide ((x : Int) * ((x : Int) - 1) < 2 * (k : Int)) = true := decide_eq_true (by rw [hI]; omega)
      have hlt : x < 17 := by
        rcases Nat.lt_or_ge x 17 with h' | h'
        · exact h'
        · obtain rfl : x = 17 := by omega
          omega
      have HH := lhd h
      clear hI h hm
      go_wp2
      go_roundw
      case rel => exact ⟨x + 1, by go_num, by omega, by omega, fun y h1 h2 => by
        rcases (by omega : y < x ∨ y = x) with h4 | rfl
        · exact HX.out y h1 h4
        · exact HH.out, trivial⟩
      case measure => simp [intOf]; omega
    · have d1 : decide ((x : Int) * ((x : Int) - 1) < 2 * (k : Int)) = false := decide_eq_false (by rw [hI]; omega)
      have HLX : Hid (LeastX k x) := lhd ⟨h1, Nat.le_of_not_lt h, HX.out⟩
      clear hI h hm HX
      go_wp2_with fail
      refine (zEK _ (by omega) ⟨by omega, by omega⟩).mono ?_
      rintro e w1 ⟨s, rfl, hs, rfl⟩
      have hs' : LeastP (((k + 99) / 100 + x : Nat) : Int) s := by
        have e : ((k : Int) + 99) / 100 + (x : Int) = (((k + 99) / 100 + x : Nat) : Int) := by omega
        rw [e] at hs; exact hs
      have hs19 : s ≤ 19 := hs'.le p19 (by omega)
      have hs2 : 2 ≤ s := hs'.two
      have HS := lhd hs'
      clear hs hs'
      go_wp2_with fail
      go_loopw [6] (fun i wr => ∃ h : Nat, i = .int .i64 (h : Int) ∧ 1 ≤ h ∧ h ≤ 10 ∧ (∀ j, j < h → ch j ((j + 1) / 2) < k + s) ∧ Below w0.heap.size w0 wr) (fun i _ => 10 - (intOf i).toNat)
      case atStart => exact ⟨1, rfl, by omega, by omega, fun j hj => by
        obtain rfl : j = 0 := by omega
        rw [show ch 0 ((0 + 1) / 2) = 1 from rfl]; omega, Below.refl _ _⟩
      case round =>
        obtain ⟨h, rfl, h1', h10, hx, hbel⟩ := hrel
        have HX := lhd hx
        have HB := lhd hbel
        have hI : ((h : Int) + 1) / 2 = (((h + 1) / 2 : Nat) : Int) := by omega
        have HI := lhd hI
        clear hI hx hbel
        go_wp2_with fail
        rw [HI.out]
        refine (zHU h ((h + 1) / 2) (by omega) (by omega)).mono ?_
        rintro e w1 ⟨rfl, hb1⟩
        have HB1 := lhd (HB.out.trans (hb1.mono HB.out.size))
        clear hb1 HB
        by_cases hc : ch h ((h + 1) / 2) < k + s
        · have hlt : h < 10 := by
            rcases Nat.lt_or_ge h 10 with h' | h'
            · exact h'
            · obtain rfl : h = 10 := by omega
              rw [show (10 + 1) / 2 = 5 from rfl, ch105] at hc
              omega
          have HH := lhd hc
          obtain ⟨y, hy⟩ : ∃ y, ch h ((h + 1) / 2) = y := ⟨_, rfl⟩
          rw [hy] at hc ⊢
          have d1 : decide ((y : Int) < (k : Int) + (s : Int)) = true := decide_eq_true (by omega)
          clear hy hc
          go_wp2
          go_roundw
          case rel => exact ⟨h + 1, by go_num, by omega, by omega, fun j h1 => by
            rcases (by omega : j < h ∨ j = h) with h4 | rfl
            · exact HX.out j h4
            · exact HH.out, HB1.out⟩
          case measure => simp [intOf]; omega
        · have HLH : Hid (LeastH (k + s) h) := lhd ⟨Nat.le_of_not_lt hc, HX.out⟩
          obtain ⟨y, hy⟩ : ∃ y, ch h ((h + 1) / 2) = y := ⟨_, rfl⟩
          rw [hy] at hc ⊢
          have d1 : decide ((y : Int) < (k : Int) + (s : Int)) = false := decide_eq_false (by omega)
          clear hy hc HX
          go_wp2_with fail
          refine (zEK _ (by omega) ⟨by omega, by omega⟩).mono ?_
          rintro e w1 ⟨p, rfl, hp, rfl⟩
          have HP : Hid (LeastP ((k + s + h : Nat) : Int) p) := lhd (by
            have e : (k : Int) + (s : Int) + (h : Int) = ((k + s + h : Nat) : Int) := by omega
            rw [e] at hp; exact hp)
          clear hp
          have hbx := HBX.out.mono HB1.out
          have c0 := zAa (j := 0) (u := .int .i64 0) hbx rfl
          have c1 := zAa (j := 1) (u := .int .i64 0) hbx rfl
          have c2 := zAa (j := 2) (u := .int .i64 0) hbx rfl
          have c3 := zAa (j := 3) (u := .int .i64 0) hbx rfl
          have c4 := zAa (j := 4) (u := .int .i64 0) hbx rfl
          have f0 := zAb (j := 0) hbx
          have f1 := zAb (j := 1) hbx
          have f2 := zAb (j := 2) hbx
          have f3 := zAb (j := 3) hbx
          have f4 := zAb (j := 4) hbx
          have HBX1 := lhd hbx
          clear hbx
          go_wp2
          refine bodyPost_ret (zAg rfl _ _ w.heap.size 95 _ (0, 0) _ rfl (HBX1.out.done _ _ _ _ _) Tryz.underlying95 rfl (by kernel_rfl)) rfl ?_
          exact ⟨s, h, k + s + h, p, rfl, ⟨⟨x, HLX.out, HS.out⟩, HLH.out, rfl, HP.out⟩, OfBox.below (HB0.out.trans (HB1.out.mono HB0.out.size)) (Nat.le_refl _) _ _ _ _ _⟩
theorem zNn {w : World} (k : Int) (hk : k < 1 ∨ 128 < k) : Calls Tryz.prog 89 #[.int .i64 k] w (NoSays 1 nameOf (parV 0 0 0 0 0) w) := by
  obtain ⟨w0, hw0, hb0, hbx⟩ : ∃ w0, w0 = w.alloc (.cells #[.int .i64 0, .int .i64 0, .int .i64 0, .int .i64 0, .int .i64 0] 95) ∧ Below w.heap.size w w0 ∧ OfBox w0 w.heap.size := ⟨_, rfl, (Below.refl _ _).alloc (Nat.le_refl _) _, heap_alloc_new w _⟩
  have HW0 := lhd hw0
  have HB0 := lhd hb0
  have HBX := lhd hbx
  clear hw0 hb0 hbx
  rcases hk with h | h
  · have d1 : decide (k < 1) = true := decide_eq_true h
    go_enter Tryz.func89, Tryz.ntmps89
    go_wp2_with fail
    rw [← HW0.out]
    refine (zAH _ 1 (by decide) _).mono ?_
    rintro e w1 ⟨E1, rfl, hc1, hb1⟩
    have hbx := HBX.out.mono hb1
    have c0 := zAa (j := 0) (u := .int .i64 0) hbx rfl
    have c1 := zAa (j := 1) (u := .int .i64 0) hbx rfl
    have c2 := zAa (j := 2) (u := .int .i64 0) hbx rfl
    have c3 := zAa (j := 3) (u := .int .i64 0) hbx rfl
    have c4 := zAa (j := 4) (u := .int .i64 0) hbx rfl
    have f0 := zAb (j := 0) hbx
    have f1 := zAb (j := 1) hbx
    have f2 := zAb (j := 2) hbx
    have f3 := zAb (j := 3) hbx
    have f4 := zAb (j := 4) hbx
    have HBX1 := lhd hbx
    have HC1 := lhd hc1
    have HB1 := lhd (HB0.out.trans (hb1.mono HB0.out.size))
    obtain ⟨u, x, rfl⟩ := hc1.some (by decide)
    clear hc1 hb1 hbx
    go_wp2
    refine bodyPost_ret (zAg rfl _ _ w.heap.size 95 _ (0, 0) _ rfl (HBX1.out.done _ _ _ _ _) Tryz.underlying95 rfl (by kernel_rfl)) rfl ?_
    exact ⟨_, rfl, HBX1.out.err HC1.out _ _ _ _ _, OfBox.below HB1.out (Nat.le_refl _) _ _ _ _ _⟩
  · have d1 : decide (k < 1) = false := decide_eq_false (by omega)
    have d2 : decide ((128 : Int) < k) = true := decide_eq_true h
    go_enter Tryz.func89, Tryz.ntmps89
    go_wp2_with fail
    rw [← HW0.out]
    refine (zAH _ 1 (by decide) _).mono ?_
    rintro e w1 ⟨E1, rfl, hc1, hb1⟩
    have hbx := HBX.out.mono hb1
    have c0 := zAa (j := 0) (u := .int .i64 0) hbx rfl
    have c1 := zAa (j := 1) (u := .int .i64 0) hbx rfl
    have c2 := zAa (j := 2) (u := .int .i64 0) hbx rfl
    have c3 := zAa (j := 3) (u := .int .i64 0) hbx rfl
    have c4 := zAa (j := 4) (u := .int .i64 0) hbx rfl
    have f0 := zAb (j := 0) hbx
    have f1 := zAb (j := 1) hbx
    have f2 := zAb (j := 2) hbx
    have f3 := zAb (j := 3) hbx
    have f4 := zAb (j := 4) hbx
    have HBX1 := lhd hbx
    have HC1 := lhd hc1
    have HB1 := lhd (HB0.out.trans (hb1.mono HB0.out.size))
    obtain ⟨u, x, rfl⟩ := hc1.some (by decide)
    clear hc1 hb1 hbx
    go_wp2
    refine bodyPost_ret (zAg rfl _ _ w.heap.size 95 _ (0, 0) _ rfl (HBX1.out.done _ _ _ _ _) Tryz.underlying95 rfl (by kernel_rfl)) rfl ?_
    exact ⟨_, rfl, HBX1.out.err HC1.out _ _ _ _ _, OfBox.below HB1.out (Nat.le_refl _) _ _ _ _ _⟩
end

section
open Go.RowKit Go.Extern.Stop Go.Stop Go.Extern
abbrev OwnRow (f : Nat → Value) (te : TypeId) (w : World) (v : Value) (n : Nat) (l : List Nat) : Prop := w.ownsRow 0 te 1 v n (l.map f)
def sysCells (n size kb : Nat) (r : Nat) (cl : Bool) : Array Value := #[.int .i64 (n : Int), .int .i64 (size : Int), .slice (some ⟨kb, 0, none⟩) n n, .int .i64 (r : Int), .bool cl]
def PlaceAt (w : World) (n size c : Nat) (rv sv : Value) : Option Eqn → Prop
  | none => rv = nilS ∧ sv = nilS
  | some q => OwnRow wordV 258 w rv (kOf n) q.1 ∧ OwnRow byteV 5 w sv size q.2 ∧ EqOk n size q ∧ Lead (bitW q.1) c
structure SysM (w : World) (b kb n size : Nat) (f : Nat → Option Eqn) (rv sv : Nat → Value) (cl : Bool) : Prop where
  obj : w.heap[b]? = some (.cells (sysCells n size kb (cntF f n) cl) 242 (0, 0))
  kobj : ∃ cur, w.heap[kb]? = some (.cells cur 244 (0, 0))
  kcell : ∀ c, c < n → w.cell? ⟨kb, c * 2, none⟩ = some (rv c) ∧ w.cell? ⟨kb, c * 2 + 1, none⟩ = some (sv c)
  place : ∀ c, c < n → PlaceAt w n size c (rv c) (sv c) (f c)
  num : 1 ≤ n ∧ n ≤ 4096 ∧ 1 ≤ size ∧ size ≤ 64
section
variable {w w' : World} {b kb n size : Nat} {f : Nat → Option Eqn} {rv sv : Nat → Value} {cl : Bool}
theorem SysM.lt (h : SysM w b kb n size f rv sv cl) : b < w.heap.size := (Array.getElem?_eq_some_iff.1 h.obj).1
theorem SysM.klt (h : SysM w b kb n size f rv sv cl) : kb < w.heap.size := by obtain ⟨cur, hc⟩ := h.kobj; exact (Array.getElem?_eq_some_iff.1 hc).1
theorem SysM.ne (h : SysM w b kb n size f rv sv cl) : b ≠ kb := fun e => by
  obtain ⟨cur, hc⟩ := h.kobj
  have := h.obj
  rw [e, hc] at this
  simp at this
theorem SysM.cells (h : SysM w b kb n size f rv sv cl) : w.cell? ⟨b, 0, none⟩ = some (.int .i64 (n : Int)) ∧ w.cell? ⟨b, 1, none⟩ = some (.int .i64 (size : Int)) ∧ w.cell? ⟨b, 2, none⟩ = some (.slice (some ⟨kb, 0, none⟩) n n) ∧
    w.cell? ⟨b, 3, none⟩ = some (.int .i64 (cntF f n : Int)) ∧ w.cell? ⟨b, 4, none⟩ = some (.bool cl) :=
  ⟨zAa h.obj rfl, zAa h.obj rfl, zAa h.obj rfl, zAa h.obj rfl, zAa h.obj rfl⟩
theorem SysM.same (h : SysM w b kb n size f rv sv cl) (hb : w'.heap[b]? = w.heap[b]?) (hk : w'.heap[kb]? = w.heap[kb]?)
    (hs : ∀ (g : Nat) (e : TypeId) (cur : Array Value), e = 258 ∨ e = 5 → w.heap[g]? = some (Obj.cells cur e (0, 0)) → w'.heap[g]? = w.heap[g]?) : SysM w' b kb n size f rv sv cl := by
  refine ⟨by rw [hb]; exact h.obj, by rw [hk]; exact h.kobj, fun c hc => ?_, fun c hc => ?_, h.num⟩
  · obtain ⟨h1, h2⟩ := h.kcell c hc
    exact ⟨(World.cell?_of_block (w := w) (a := ⟨kb, c * 2, none⟩) hk).trans h1, (World.cell?_of_block (w := w) (a := ⟨kb, c * 2 + 1, none⟩) hk).trans h2⟩
  · have hp := h.place c hc
    cases hf : f c with
    | none => rw [hf] at hp; exact hp
    | some q =>
      rw [hf] at hp
      exact ⟨zAp hp.1 fun g cur hg => hs g _ cur (.inl rfl) hg, zAp hp.2.1 fun g cur hg => hs g _ cur (.inr rfl) hg, hp.2.2⟩
theorem SysM.mono (h : SysM w b kb n size f rv sv cl) (hb : Below w.heap.size w w') : SysM w' b kb n size f rv sv cl :=
  h.same (hb.block b h.lt) (hb.block kb h.klt) fun g _ _ _ hg => hb.block g (Array.getElem?_eq_some_iff.1 hg).1
structure Touch (b kb : Nat) (w w' : World) : Prop where
  os : w'.os = w.os
  tape : w'.tape = w.tape
  output : w'.output = w.output
  size : w.heap.size ≤ w'.heap.size
  block : ∀ k, k < w.heap.size → k ≠ b → k ≠ kb → w'.heap[k]? = w.heap[k]?
theorem Touch.of (h : Below w.heap.size w w') : Touch b kb w w' := ⟨h.os, h.tape, h.output, h.size, fun k hk _ _ => h.block k hk⟩
theorem Touch.trans {x : World} (h : Touch b kb w w') (k : Touch b kb w' x) : Touch b kb w x :=
  ⟨k.os.trans h.os, k.tape.trans h.tape, k.output.trans h.output, Nat.le_trans h.size k.size, fun i hi h1 h2 => (k.block i (Nat.lt_of_lt_of_le hi h.size) h1 h2).trans (h.block i hi h1 h2)⟩
theorem Touch.setCell (h : Touch b kb w w') {p : Addr} (hp : p.block = b ∨ p.block = kb) (u : Value) : Touch b kb w (w'.setCell p u) :=
  h.trans ⟨rfl, rfl, rfl, by simp [World.setCell], fun k _ h1 h2 => Below.heap_setCell _ _ _ _ (by rcases hp with e | e <;> rw [e] <;> assumption)⟩
theorem Touch.drew (h : Touch b kb w w') : Touch b kb w w'.drew := ⟨h.os, h.tape, h.output, h.size, h.block⟩
theorem Touch.below {B : Nat} (h : Touch b kb w w') (h1 : B ≤ b) (h2 : B ≤ kb) (h3 : B ≤ w.heap.size) : Below B w w' := ⟨h.os, h.tape, h.output, h.size, fun k hk => h.block k (by omega) (by omega) (by omega)⟩
theorem Touch.own {e : TypeId} {v : Value} {k base : Nat} {xs : List Value} (h : Touch b kb w w') (hs : SysM w b kb n size f rv sv cl) (he : e ≠ 242 ∧ e ≠ 244) (ho : w.ownsRow base e 1 v k xs) : w'.ownsRow base e 1 v k xs :=
  zAp ho fun g cur hg => by
    refine h.block g (Array.getElem?_eq_some_iff.1 hg).1 (fun e1 => ?_) (fun e1 => ?_)
    · have := hs.obj
      rw [← e1, hg] at this
      simp at this
      exact he.1 this.2
    · obtain ⟨cur', hc⟩ := hs.kobj
      rw [← e1, hg] at hc
      simp at hc
      exact he.2 hc.2
theorem SysM.stair (h : SysM w b kb n size f rv sv cl) : Stair (uF f n) n := fun c hc => by
  have hp := h.place c hc
  cases hf : f c with
  | none => exact .inl (zEz hf)
  | some q =>
    rw [hf] at hp
    rw [zGt hf]
    exact .inr (zDD hc hp.2.2.2)
end
def Sys (w : World) (b n size : Nat) (K : List Vec) (r : Nat) (cl : Bool) (kb : Nat) : Prop :=
  ∃ f rv sv, SysM w b kb n size f rv sv cl ∧ SpEq (stL (uF f n) n) K ∧ cntF f n = r
theorem Sys.mono {w w' : World} {b n size r kb : Nat} {K : List Vec} {cl : Bool} (h : Sys w b n size K r cl kb) (hb : Below w.heap.size w w') : Sys w' b n size K r cl kb := by
  obtain ⟨f, rv, sv, h1, h2⟩ := h
  exact ⟨f, rv, sv, h1.mono hb, h2⟩
end

section
open Go.RowKit Go.Extern.Stop Go.Stop Go.Extern
def ParBox (W : World) (g : Nat) (k s h l p : Int) : Prop := W.heap[g]? = some (.cells (parC k s h l p) 95 (0, 0))
theorem ParBox.lt {W : World} {g : Nat} {k s h l p : Int} (b : ParBox W g k s h l p) : g < W.heap.size := (Array.getElem?_eq_some_iff.1 b).1
theorem ParBox.mono {W W' : World} {g : Nat} {k s h l p : Int} (b : ParBox W g k s h l p) (hb : Below W.heap.size W W') : ParBox W' g k s h l p := (hb.block g b.lt).trans b
theorem ParBox.cells {W : World} {g : Nat} {k s h l p : Int} (b : ParBox W g k s h l p) :
    W.cell? ⟨g, 0, none⟩ = some (.int .i64 k) ∧ W.cell? ⟨g, 1, none⟩ = some (.int .i64 s) ∧ W.cell? ⟨g, 2, none⟩ = some (.int .i64 h) ∧ W.cell? ⟨g, 3, none⟩ = some (.int .i64 l) ∧ W.cell? ⟨g, 4, none⟩ = some (.int .i64 p) :=
  ⟨zAa b rfl, zAa b rfl, zAa b rfl, zAa b rfl, zAa b rfl⟩
theorem zAi (w : World) (k s h l p : Int) : ∃ W, W = w.alloc (.cells #[.int .i64 k, .int .i64 s, .int .i64 h, .int .i64 l, .int .i64 p] 95) ∧ Below w.heap.size w W ∧ ParBox W w.heap.size k s h l p :=
  ⟨_, rfl, (Below.refl _ _).alloc (Nat.le_refl _) _, heap_alloc_new w _⟩
end

section
open Go.RowKit Go.Extern.Stop Go.Stop Go.Extern
def Good (K S H L P : Int) : Prop := ∃ k s h l p : Nat, K = k ∧ S = s ∧ H = h ∧ L = l ∧ P = p ∧ 1 ≤ k ∧ k ≤ 128 ∧ OfP k s h l p
end

section
open Go.RowKit Go.Extern.Stop Go.Stop Go.Extern
def tripC (d s a : Int) : Array Value := #[.int .i64 d, .int .i64 s, .int .i64 a]
def tripV (d s a : Int) : Value := .agg (tripC d s a)
def TripBox (W : World) (g : Nat) (d s a : Int) : Prop := W.heap[g]? = some (.cells (tripC d s a) 249 (0, 0))
theorem TripBox.lt {W : World} {g : Nat} {d s a : Int} (b : TripBox W g d s a) : g < W.heap.size := (Array.getElem?_eq_some_iff.1 b).1
theorem TripBox.mono {W W' : World} {g : Nat} {d s a : Int} (b : TripBox W g d s a) (hb : Below W.heap.size W W') : TripBox W' g d s a := (hb.block g b.lt).trans b
theorem TripBox.cells {W : World} {g : Nat} {d s a : Int} (b : TripBox W g d s a) :
    W.cell? ⟨g, 0, none⟩ = some (.int .i64 d) ∧ W.cell? ⟨g, 1, none⟩ = some (.int .i64 s) ∧ W.cell? ⟨g, 2, none⟩ = some (.int .i64 a) :=
  ⟨zAa b rfl, zAa b rfl, zAa b rfl⟩
theorem TripBox.free {W : World} {g : Nat} {d s a : Int} (b : TripBox W g d s a) :
    W.frozen? ⟨g, 0, none⟩ = false ∧ W.frozen? ⟨g, 1, none⟩ = false ∧ W.frozen? ⟨g, 2, none⟩ = false :=
  ⟨zAb b, zAb b, zAb b⟩
theorem zAO (w : World) (d s a : Int) : ∃ W, W = w.alloc (.cells #[.int .i64 d, .int .i64 s, .int .i64 a] 249) ∧ Below w.heap.size w W ∧ TripBox W w.heap.size d s a :=
  ⟨_, rfl, (Below.refl _ _).alloc (Nat.le_refl _) _, heap_alloc_new w _⟩
theorem TripBox.done {W : World} {g : Nat} {d s a : Int} (h : TripBox W g d s a) (x y z : Value) : (((W.setCell ⟨g, 0, none⟩ x).setCell ⟨g, 1, none⟩ y).setCell ⟨g, 2, none⟩ z).heap[g]? = some (.cells #[x, y, z] 249 (0, 0)) :=
  zAc (zAc (zAc h))
theorem TripBox.below {W w : World} {B g : Nat} (hb : Below B w W) (hg : B ≤ g) (x y z : Value) : Below B w (((W.setCell ⟨g, 0, none⟩ x).setCell ⟨g, 1, none⟩ y).setCell ⟨g, 2, none⟩ z) :=
  ((hb.setCell (p := ⟨g, 0, none⟩) hg x).setCell (p := ⟨g, 1, none⟩) hg y).setCell (p := ⟨g, 2, none⟩) hg z
theorem TripBox.err {W : World} {g : Nat} {d s a : Int} {k : Int} {n : ByteArray} {E : Value} (h : TripBox W g d s a) (he : ErrAns k n W E) (x y z : Value) : ErrAns k n (((W.setCell ⟨g, 0, none⟩ x).setCell ⟨g, 1, none⟩ y).setCell ⟨g, 2, none⟩ z) E :=
  zBt he fun b s hc => by
    have n1 : b ≠ g := by
      rintro rfl
      rw [h.cells.1] at hc
      cases hc
    rw [Below.heap_setCell _ _ _ _ n1, Below.heap_setCell _ _ _ _ n1, Below.heap_setCell _ _ _ _ n1]
theorem ParBox.set {W : World} {g b j : Nat} {k s h l p : Int} {u : Value} (x : ParBox W g k s h l p) (hn : g ≠ b) : ParBox (W.setCell ⟨b, j, none⟩ u) g k s h l p := (Below.heap_setCell _ ⟨b, j, none⟩ _ _ hn).trans x
theorem TripBox.set {W : World} {g b j : Nat} {d s a : Int} {u : Value} (x : TripBox W g d s a) (hn : g ≠ b) : TripBox (W.setCell ⟨b, j, none⟩ u) g d s a := (Below.heap_setCell _ ⟨b, j, none⟩ _ _ hn).trans x
end
end Go.Proofs.YtkfimdpcadbcpaaGreatDoor
