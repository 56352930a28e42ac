import Derived.Test.YtkhdjjcflbdegaaGreatDoorG07
import Derived.Laws.CopyOwn
import Derived.Test.YtkhdjjcflbdegaaGreatDoorG04
import Derived.Test.YtkhdjjcflbdegaaGreatDoorG08
import Derived.Deep.LoopGhost
import Derived.WalkMore
import Derived.OwnWalk
import Derived.WalkSpells
import Derived.WalkLawsBesides
import Derived.Test.YtkhdjjcflbdegaaGreatDoorG02

section
/- Blocks known whole: a row of the call's own whose capacity is its length; cells and marks of a block. (Was in SyA, ElMem.) -/
namespace Go.Proofs.YtkhdjjcflbdegaaGreatDoor
open Go.RowKit Go.Extern.Stop Go.Stop Go.Extern

theorem own_full {w : World} {base n g : Nat} {e : TypeId} {xs : List Value} (h : w.ownsRow base e 1 (.slice (some ⟨g, 0, none⟩) n n) n xs) : base ≤ g ∧ xs.length = n ∧ w.heap[g]? = some (.cells xs.toArray e (0, 0)) := by
  have h1 := h.1
  rcases h.2 with ⟨e1, _⟩ | ⟨g', cap, cur, e1, hb, hg, hc, hm, hs, ht⟩
  · cases e1
  · obtain ⟨rfl, rfl⟩ : g = g' ∧ n = cap := by simpa using e1
    refine ⟨hb, by omega, ?_⟩
    rw [hg]
    have : cur.toList = xs := by
      rw [← ht, List.take_of_length_le (by simp; omega)]
    rw [← this]

theorem own_of_heap {w : World} {base n g : Nat} {e : TypeId} {xs : List Value} (hb : base ≤ g) (hl : xs.length = n) (hm : n ≤ maxLen) (h : w.heap[g]? = some (.cells xs.toArray e (0, 0))) : w.ownsRow base e 1 (.slice (some ⟨g, 0, none⟩) n n) n xs :=
  ⟨by omega, .inr ⟨g, n, xs.toArray, rfl, hb, h, Nat.le_refl _, hm, by simp; omega, by rw [List.take_of_length_le (by simp; omega)]⟩⟩

theorem splice_all {α : Type} {L cs : List α} (h : cs.length = L.length) : splice L 0 cs = cs := by
  unfold splice
  rw [List.drop_of_length_le (by omega)]
  simp

theorem cell_of_heap {w : World} {b j : Nat} {cur : Array Value} {t : TypeId} {z : Nat × Nat} {u : Value} (h : w.heap[b]? = some (.cells cur t z)) (hj : cur[j]? = some u) : w.cell? ⟨b, j, none⟩ = some u := by
  unfold World.cell?
  rw [show w.heap[(⟨b, j, none⟩ : Addr).block]? = _ from h]
  simpa using hj

theorem frozen_of_heap {w : World} {b j : Nat} {cur : Array Value} {t : TypeId} (h : w.heap[b]? = some (.cells cur t (0, 0))) : w.frozen? ⟨b, j, none⟩ = false := by
  unfold World.frozen?
  rw [show w.heap[(⟨b, j, none⟩ : Addr).block]? = _ from h]
  simp

theorem heap_setCell_at {w : World} {b j : Nat} {cur : Array Value} {t : TypeId} {z : Nat × Nat} {u : Value} (h : w.heap[b]? = some (.cells cur t z)) : (w.setCell ⟨b, j, none⟩ u).heap[b]? = some (.cells (cur.setIfInBounds j u) t z) := by
  simp only [World.setCell, Array.getElem?_modify]
  simp [h]

end Go.Proofs.YtkhdjjcflbdegaaGreatDoor
end

section
/- Package params and the document's primes: prime, IsPrime, Prime. -/
namespace Go.Proofs.YtkhdjjcflbdegaaGreatDoor
open Go.RowKit Go.Extern.Stop Go.Stop Go.Extern

/-- What prime tells: the least prime from n on. -/
def PrimeSays (n : Int) (w : World) (e : Ending) (w' : World) : Prop := ∃ p : Nat, e = .returned (.int .i64 p) ∧ LeastP n p ∧ w = w'

theorem sq_bound {c d : Nat} (hc : c ≤ 65537) (h : d * d ≤ c) : d ≤ 256 := by
  rcases Nat.lt_or_ge 256 d with h1 | h1
  · have := Nat.mul_le_mul h1 h1
    omega
  · exact h1
theorem sq_le {d : Nat} (h : d ≤ 257) : d * d ≤ 66049 := Nat.mul_le_mul h h

set_option maxRecDepth 1000000 in
set_option maxHeartbeats 1000000 in
theorem prime_any {w : World} (n : Int) (hn : n ≤ 65537) (hn0 : I64 n) :
    Calls Tryz.prog 57 #[.int .i64 n] w (PrimeSays n w) := by
  obtain ⟨c0, hc1, hc2, hc3, hc4, hc5⟩ : ∃ c0 : Nat, (n < 2 ∧ c0 = 2 ∨ 2 ≤ n ∧ n = (c0 : Int)) ∧ 2 ≤ c0 ∧ c0 ≤ 65537 ∧ n ≤ c0 ∧ ∀ q : Nat, n ≤ q → q < c0 → ¬ IsP q := by
    refine ⟨(max n 2).toNat, by omega, by omega, by omega, by omega, fun q h1 h2 h3 => ?_⟩
    have := h3.1
    omega
  have HQ := Lib.hid hc5
  clear hc5
  rcases hc1 with ⟨h, h2⟩ | ⟨h, h2⟩
  all_goals
    have H2 := Lib.hid h2
    clear h2
    go_enter Tryz.func57, Tryz.ntmps57
    go_wp2_with fail
    go_step3
    go_wp2_with fail
    go_step3
    go_wp2_with fail
    go_loopg [3] 65537 (fun gk i wr => ∃ c : Nat, i = .int .i64 c ∧ 2 ≤ c ∧ c ≤ 65537 ∧ n ≤ c ∧ (∀ q : Nat, n ≤ q → q < c → ¬ IsP q) ∧ 65537 - c ≤ gk ∧ w = wr)
    case atStart => exact ⟨c0, by rw [H2.out]; try rfl, hc2, hc3, hc4, HQ.out, by omega, rfl⟩
    case round =>
      clear hc2 hc3 hc4 HQ H2
      obtain ⟨c, rfl, h2, h65, hnc, hq, hg, rfl⟩ := hrel
      have HQ := Lib.hid hq
      obtain ⟨go, rfl⟩ : ∃ go, go = gk := ⟨gk, rfl⟩
      have HG := Lib.hid hg
      clear hq hg
      go_wp2_with fail
      go_loopg [3, 4] 257 (fun gd i j wr => ∃ d : Nat, i = .int .i64 c ∧ j = .int .i64 d ∧ 2 ≤ d ∧ d ≤ 257 ∧ (∀ e, 2 ≤ e → e < d → c % e ≠ 0) ∧ 257 - d ≤ gd ∧ w = wr)
      case atStart => exact ⟨2, rfl, rfl, by omega, by omega, fun e h1 h3 => by omega, by omega, rfl⟩
      case round =>
        obtain ⟨d, rfl, rfl, hd2, hd257, hdiv, hgd, rfl⟩ := hrel
        have HD := Lib.hid hdiv
        have HGD := Lib.hid hgd
        clear hdiv hgd
        have hsq := sq_le hd257
        have hsqI : (d : Int) * (d : Int) ≤ 66049 := by rw [← Int.natCast_mul]; omega
        have hsq0 : 0 ≤ (d : Int) * (d : Int) := by rw [← Int.natCast_mul]; omega
        have hd0 : (d : Int) ≠ 0 := by omega
        have hd1 : ((d : Int) == 0) = false := by simpa using hd0
        by_cases hdd : d * d ≤ c
        · have hddI : (d : Int) * (d : Int) ≤ (c : Int) := by rw [← Int.natCast_mul]; omega
          have hdec : decide ((d : Int) * (d : Int) ≤ (c : Int)) = true := decide_eq_true hddI
          have hd256 := sq_bound h65 hdd
          by_cases hm : c % d = 0
          · have hNP : Hid (¬ IsP c) := Lib.hid (not_isP hd2 (by
              have : 2 * d ≤ d * d := Nat.mul_le_mul_right d hd2
              omega) hm)
            have hmI : ((c : Int) % (d : Int)) = 0 := by rw [← Int.natCast_emod, hm]; rfl
            have hmB : ((c : Int) % (d : Int) == 0) = true := by simpa using hmI
            have hc65 : c < 65537 := by
              rcases Nat.lt_or_ge c 65537 with h' | h'
              · exact h'
              · obtain rfl : c = 65537 := by omega
                exact absurd p65537 hNP.out
            clear hm hmI hddI hdd hsq
            obtain ⟨g', rfl⟩ : ∃ g', go = g' + 1 := ⟨go - 1, by have := HG.out; omega⟩
            go_wp2_with fail
            go_roundg g'
            case measure => omega
            case rel => exact ⟨c + 1, by go_num, by omega, by omega, by omega, fun q h1 h3 => by
              rcases (by omega : q < c ∨ q = c) with h4 | rfl
              · exact HQ.out q h1 h4
              · exact hNP.out, by have := HG.out; omega, rfl⟩
          · have hmI : ((c : Int) % (d : Int)) ≠ 0 := by rw [← Int.natCast_emod]; omega
            have hmB : ((c : Int) % (d : Int) == 0) = false := by simpa using hmI
            have HM := Lib.hid hm
            obtain ⟨g', rfl⟩ : ∃ g', gk = g' + 1 := ⟨gk - 1, by have := HGD.out; omega⟩
            clear hm hmI hddI hdd hsq
            go_wp2_with fail
            go_roundg g'
            case measure => omega
            case rel => exact ⟨d + 1, rfl, by go_num, by omega, by omega, fun e h1 h3 => by
              rcases (by omega : e < d ∨ e = d) with h4 | rfl
              · exact HD.out e h1 h4
              · exact HM.out, by have := HGD.out; omega, rfl⟩
        · have hddI : ¬ (d : Int) * (d : Int) ≤ (c : Int) := by rw [← Int.natCast_mul]; omega
          have hdec : decide ((d : Int) * (d : Int) ≤ (c : Int)) = false := decide_eq_false hddI
          have HP : Hid (IsP c) := Lib.hid (isP_of_root h2 d HD.out (by omega))
          clear hddI hdd hsq
          go_wp2_with fail
          try rw [Exit.noGoto_ret]
          go_ret
          exact ⟨c, rfl, ⟨HP.out, hnc, HQ.out⟩, rfl⟩

/-- Whether n is a prime that is told of. -/
noncomputable def isPI (n : Int) : Bool := by classical exact decide (2 ≤ n ∧ n ≤ 65536 ∧ IsP n.toNat)
theorem isPI_true {n : Int} (h1 : 2 ≤ n) (h2 : n ≤ 65536) (h : IsP n.toNat) : isPI n = true := by unfold isPI; simp [h1, h2, h]
theorem isPI_false {n : Int} (h : ¬ (2 ≤ n ∧ n ≤ 65536 ∧ IsP n.toNat)) : isPI n = false := by unfold isPI; classical exact decide_eq_false h
theorem isPI_iff (n : Int) : isPI n = true ↔ 2 ≤ n ∧ n ≤ 65536 ∧ IsP n.toNat := by unfold isPI; classical exact decide_eq_true_iff

set_option maxRecDepth 1000000 in
theorem rIsPrime_any {w : World} (n : Int) : Calls Tryz.prog 96 #[.int .i64 n] w fun e w' => e = .returned (.bool (isPI n)) ∧ w = w' := by
  by_cases h1 : 2 ≤ n
  · by_cases h2 : n ≤ 65536
    · obtain ⟨c, rfl⟩ : ∃ c : Nat, n = (c : Int) := ⟨n.toNat, by omega⟩
      have HT : Hid (IsP c → isPI (c : Int) = true) := Lib.hid fun h => isPI_true h1 h2 (by simpa using h)
      have HF : Hid (¬ IsP c → isPI (c : Int) = false) := Lib.hid fun h => isPI_false (fun h' => h (by simpa using h'.2.2))
      have d1 : decide ((c : Int) < 2) = false := decide_eq_false (by omega)
      have d2 : decide ((65536 : Int) < c) = false := decide_eq_false (by omega)
      go_enter Tryz.func96, Tryz.ntmps96
      go_wp2
      go_loopw [3] (fun j wr => ∃ d : Nat, j = .int .i64 d ∧ 2 ≤ d ∧ d ≤ 257 ∧ d ≤ c ∧ (∀ e, 2 ≤ e → e < d → c % e ≠ 0) ∧ w = wr) (fun j _ => 257 - (intOf j).toNat)
      case atStart => exact ⟨2, rfl, by omega, by omega, by omega, fun e h1 h3 => by omega, rfl⟩
      case round =>
        obtain ⟨d, rfl, hd2, hd257, hdc, hdiv, rfl⟩ := hrel
        have HD := Lib.hid hdiv
        clear hdiv
        have hd0 : (d : Int) ≠ 0 := by omega
        have hd1 : ((d : Int) == 0) = false := by simpa using hd0
        by_cases h256 : d ≤ 256
        · have e1 : decide ((d : Int) ≤ 256) = true := decide_eq_true (by omega)
          by_cases hlt : d < c
          · have e2 : decide ((d : Int) < (c : Int)) = true := decide_eq_true (by omega)
            have e3 : decide (d < c) = true := decide_eq_true hlt
            by_cases hm : c % d = 0
            · have hNP := Lib.hid (HF.out (not_isP hd2 hlt hm))
              have hmI : ((c : Int) % (d : Int)) = 0 := by rw [← Int.natCast_emod, hm]; rfl
              have hmB : ((c : Int) % (d : Int) == 0) = true := by simpa using hmI
              clear hm hmI
              go_wp2
              go_ret
              exact ⟨by rw [hNP.out]; rfl, rfl⟩
            · have hmI : ((c : Int) % (d : Int)) ≠ 0 := by rw [← Int.natCast_emod]; omega
              have hmB : ((c : Int) % (d : Int) == 0) = false := by simpa using hmI
              have HM := Lib.hid hm
              clear hm hmI
              go_wp2
              go_roundw
              case rel => exact ⟨d + 1, by go_num, by omega, by omega, by omega, fun e h1 h3 => by
                rcases (by omega : e < d ∨ e = d) with h4 | rfl
                · exact HD.out e h1 h4
                · exact HM.out, trivial⟩
              case measure => simp [intOf]; omega
          · have e2 : decide ((d : Int) < (c : Int)) = false := decide_eq_false (by omega)
            have e3 : decide (d < c) = false := decide_eq_false hlt
            have hP := Lib.hid (HT.out ⟨by omega, fun e h1 h3 => HD.out e h1 (by omega)⟩)
            go_wp2
            go_ret
            exact ⟨by rw [hP.out]; rfl, rfl⟩
        · have e1 : decide ((d : Int) ≤ 256) = false := decide_eq_false (by omega)
          have hP := Lib.hid (HT.out (isP_of_root (by omega) 257 (fun e h1 h3 => HD.out e h1 (by omega)) (by omega)))
          go_wp2
          go_ret
          exact ⟨by rw [hP.out]; rfl, rfl⟩
    · have HB := Lib.hid (isPI_false (n := n) (by omega))
      have h3 : decide ((65536 : Int) < n) = true := decide_eq_true (by omega)
      have h4 : decide (n < 2) = false := decide_eq_false (by omega)
      go_enter Tryz.func96, Tryz.ntmps96
      go_wp2
      go_ret
      exact ⟨by rw [HB.out]; rfl, rfl⟩
  · have HB := Lib.hid (isPI_false (n := n) (by omega))
    have h3 : decide (n < 2) = true := decide_eq_true (by omega)
    go_enter Tryz.func96, Tryz.ntmps96
    go_wp2
    go_ret
    exact ⟨by rw [HB.out]; rfl, rfl⟩

set_option maxRecDepth 1000000 in
theorem rPrime_any {w : World} (n : Int) (hn : n ≤ 65521) (hn0 : I64 n) : Calls Tryz.prog 54 #[.int .i64 n] w (PrimeSays n w) := by
  obtain ⟨c0, hc1, hc2, hc3, hc4, hc5⟩ : ∃ c0 : Nat, (n < 2 ∧ c0 = 2 ∨ 2 ≤ n ∧ n = (c0 : Int)) ∧ 2 ≤ c0 ∧ c0 ≤ 65521 ∧ n ≤ c0 ∧ ∀ q : Nat, n ≤ q → q < c0 → ¬ IsP q := by
    refine ⟨(max n 2).toNat, by omega, by omega, by omega, by omega, fun q h1 h2 h3 => ?_⟩
    have := h3.1
    omega
  have HQ := Lib.hid hc5
  clear hc5
  rcases hc1 with ⟨h, h2⟩ | ⟨h, h2⟩
  all_goals
    have H2 := Lib.hid h2
    clear h2
    go_enter Tryz.func54, Tryz.ntmps54
    go_wp2
    go_loopw [3] (fun i wr => ∃ c : Nat, i = .int .i64 c ∧ 2 ≤ c ∧ c ≤ 65521 ∧ n ≤ c ∧ (∀ q : Nat, n ≤ q → q < c → ¬ IsP q) ∧ w = wr) (fun i _ => 65521 - (intOf i).toNat)
    case atStart => exact ⟨c0, by rw [H2.out]; try rfl, hc2, hc3, hc4, HQ.out, rfl⟩
    case round =>
      clear hc2 hc3 hc4 HQ H2
      obtain ⟨c, rfl, h2, h65, hnc, hq, rfl⟩ := hrel
      have HQ := Lib.hid hq
      clear hq
      by_cases h65' : c < 65521
      · have e1 : decide ((c : Int) < 65521) = true := decide_eq_true (by omega)
        by_cases hp : IsP c
        · have HP := Lib.hid hp
          have HB := Lib.hid (isPI_true (n := (c : Int)) (by omega) (by omega) (by simpa using hp))
          clear hp
          go_wp2_with fail
          refine (rIsPrime_any (c : Int)).mono ?_
          rintro e w1 ⟨rfl, rfl⟩
          rw [HB.out]
          go_wp2
          go_ret
          exact ⟨c, rfl, ⟨HP.out, hnc, HQ.out⟩, rfl⟩
        · have HP := Lib.hid hp
          have HB := Lib.hid (isPI_false (n := (c : Int)) (fun h => hp (by simpa using h.2.2)))
          clear hp
          go_wp2_with fail
          refine (rIsPrime_any (c : Int)).mono ?_
          rintro e w1 ⟨rfl, rfl⟩
          rw [HB.out]
          go_wp2
          go_roundw
          case rel => exact ⟨c + 1, by go_num, by omega, by omega, by omega, fun q h1 h3 => by
            rcases (by omega : q < c ∨ q = c) with h4 | rfl
            · exact HQ.out q h1 h4
            · exact HP.out, trivial⟩
          case measure => simp [intOf]; omega
      · have e1 : decide ((c : Int) < 65521) = false := decide_eq_false (by omega)
        have HC : Hid (c = 65521) := Lib.hid (by omega)
        go_wp2
        go_ret
        exact ⟨c, rfl, ⟨by rw [HC.out]; exact p65521, hnc, HQ.out⟩, rfl⟩
end Go.Proofs.YtkhdjjcflbdegaaGreatDoor
end

section
/- Package params: choose, row by row. -/
namespace Go.Proofs.YtkhdjjcflbdegaaGreatDoor
open Go.RowKit Go.Extern.Stop Go.Stop Go.Extern

/-- A row of ways to choose of j. -/
def rowC (j : Nat) : List Int := (List.range (j + 1)).map fun i => ((ch j i : Nat) : Int)
theorem rowC_len (j : Nat) : (rowC j).length = j + 1 := by simp [rowC]
theorem rowC_get (j i : Nat) (h : i ≤ j) : (rowC j)[i]? = some ((ch j i : Nat) : Int) := by
  have : i < j + 1 := by omega
  simp [rowC, List.getElem?_range this]
/-- The next row, t of its sums done. -/
def nxt (j t i : Nat) : Int := (if i = 0 then 0 else ((ch j (i - 1) : Nat) : Int)) + (if i < t ∧ i ≤ j then ((ch j i : Nat) : Int) else 0)
def nxtL (j t : Nat) : List Int := (List.range (j + 2)).map (nxt j t)
theorem nxtL_len (j t : Nat) : (nxtL j t).length = j + 2 := by simp [nxtL]
theorem nxtL_get (j t i : Nat) (h : i < j + 2) : (nxtL j t)[i]? = some (nxt j t i) := by
  simp [nxtL, List.getElem?_range h]
theorem nxt_at (j i : Nat) : nxt j i i = if i = 0 then 0 else ((ch j (i - 1) : Nat) : Int) := by
  unfold nxt; rw [if_neg (by omega : ¬ (i < i ∧ i ≤ j))]; omega
theorem nxtL_start (j : Nat) : splice (List.replicate (j + 2) 0) 1 (rowC j) = nxtL j 0 := by
  apply List.ext_getElem?
  intro i
  have hl : (splice (List.replicate (j + 2) 0) 1 (rowC j)).length = j + 2 := by rw [length_splice _ _ _ (by rw [rowC_len]; simp; omega)]; simp
  rcases Nat.lt_or_ge i (j + 2) with h | h
  · rw [nxtL_get j 0 i h]
    unfold nxt
    rw [if_neg (by omega : ¬ (i < 0 ∧ i ≤ j))]
    unfold splice
    cases i with
    | zero => simp
    | succ i =>
      rw [List.getElem?_append_right (by simp), List.getElem?_append_left (by rw [rowC_len]; simp; omega)]
      simp only [List.length_take, List.length_replicate]
      rw [show i + 1 - min 1 (j + 2) = i by omega, rowC_get j i (by omega)]
      simp
  · rw [List.getElem?_eq_none (by omega), List.getElem?_eq_none (by rw [nxtL_len]; omega)]
theorem nxtL_step (j t : Nat) (h : t ≤ j) : (nxtL j t).set t (nxt j t t + ((ch j t : Nat) : Int)) = nxtL j (t + 1) := by
  apply List.ext_getElem?
  intro i
  rw [List.getElem?_set]
  rcases Nat.lt_or_ge i (j + 2) with hi | hi
  · rw [nxtL_get j t i hi, nxtL_get j (t + 1) i hi]
    by_cases e : t = i
    · subst e
      rw [if_pos rfl, if_pos (by rw [nxtL_len]; omega), nxt_at]
      unfold nxt
      rw [if_pos (by omega : t < t + 1 ∧ t ≤ j)]
    · rw [if_neg e]
      unfold nxt
      congr 2
      by_cases h2 : i < t
      · by_cases h3 : i ≤ j
        · rw [if_pos (by omega), if_pos (by omega)]
        · rw [if_neg (by omega), if_neg (by omega)]
      · rw [if_neg (by omega), if_neg (by omega)]
  · rw [List.getElem?_eq_none (by rw [nxtL_len]; omega), List.getElem?_eq_none (by rw [nxtL_len]; omega), if_neg (by omega)]
theorem nxtL_end (j : Nat) : nxtL j (j + 1) = rowC (j + 1) := by
  apply List.ext_getElem?
  intro i
  rcases Nat.lt_or_ge i (j + 2) with hi | hi
  · rw [nxtL_get j _ i hi, rowC_get (j + 1) i (by omega)]
    unfold nxt
    congr 1
    cases i with
    | zero => rw [if_pos rfl, if_pos (by omega), ch_zero, ch_zero]; rfl
    | succ i =>
      rw [if_neg (by omega), ch_succ, show i + 1 - 1 = i by omega]
      by_cases h2 : i + 1 ≤ j
      · rw [if_pos (by omega)]; omega
      · rw [if_neg (by omega), ch_over j (i + 1) (by omega)]; rfl
  · rw [List.getElem?_eq_none (by rw [nxtL_len]; omega), List.getElem?_eq_none (by rw [rowC_len]; omega)]
theorem nxt_bound (j t : Nat) (hj : j ≤ 60) : 0 ≤ nxt j t t ∧ nxt j t t ≤ 283726776524341248 := by
  rw [nxt_at]
  split
  · omega
  · have := ch_bound j (t - 1) hj
    omega

/-- A row of numbers that is a block of its own. -/
def RowIs (w : World) (B g : Nat) (xs : List Int) : Prop := B ≤ g ∧ w.heap[g]? = some (.cells (xs.map intV).toArray 3 (0, 0))
theorem RowIs.cell {w : World} {B g i : Nat} {xs : List Int} {x : Int} (h : RowIs w B g xs) (hi : xs[i]? = some x) : w.cell? ⟨g, i, none⟩ = some (.int .i64 x) :=
  cell_of_heap h.2 (by simp [hi, intV])
theorem RowIs.frozen {w : World} {B g i : Nat} {xs : List Int} (h : RowIs w B g xs) : w.frozen? ⟨g, i, none⟩ = false := frozen_of_heap h.2
theorem RowIs.lt {w : World} {B g : Nat} {xs : List Int} (h : RowIs w B g xs) : g < w.heap.size := (Array.getElem?_eq_some_iff.1 h.2).1
theorem RowIs.mono {w w' : World} {B g : Nat} {xs : List Int} (h : RowIs w B g xs) (hb : Below w.heap.size w w') : RowIs w' B g xs := ⟨h.1, (hb.block g h.lt).trans h.2⟩
theorem RowIs.set {w : World} {B g : Nat} {xs : List Int} (h : RowIs w B g xs) (i : Nat) (x : Int) : RowIs (w.setCell ⟨g, i, none⟩ (.int .i64 x)) B g (xs.set i x) := by
  refine ⟨h.1, ?_⟩
  rw [heap_setCell_at h.2, List.map_set]
  simp [intV]
theorem RowIs.other {w : World} {B g g' : Nat} {xs : List Int} (h : RowIs w B g xs) (hne : g ≠ g') (i : Nat) (u : Value) : RowIs (w.setCell ⟨g', i, none⟩ u) B g xs := by
  refine ⟨h.1, ?_⟩
  rw [← h.2]
  simp only [World.setCell, Array.getElem?_modify]
  rw [if_neg (by simpa using fun e => hne e.symm)]

set_option maxRecDepth 1000000 in
set_option maxHeartbeats 4000000 in
theorem choose_any {w : World} (n k : Nat) (hn : n ≤ 60) (hk : k ≤ n) : Calls Tryz.prog 58 #[.int .i64 (n : Int), .int .i64 (k : Int)] w fun e w' => e = .returned (.int .i64 ((ch n k : Nat) : Int)) ∧ Below w.heap.size w w' := by
  obtain ⟨i0, hi, hz0, hz1, hz2⟩ := info_parts info_int
  go_enter Tryz.func58, Tryz.ntmps58
  go_wp2_with fail
  go_loopw [5, 11] (fun v i wr => ∃ j : Nat, j ≤ n ∧ i = .int .i64 (j : Int) ∧ (∃ g m : Nat, m = j + 1 ∧ v = .slice (some ⟨g, 0, none⟩) m m ∧ RowIs wr w.heap.size g (rowC j)) ∧ Below w.heap.size w wr) (fun _ i _ => n - (intOf i).toNat)
  case atStart =>
    refine ⟨0, by omega, rfl, ⟨w.heap.size, 1, rfl, rfl, Nat.le_refl _, ?_⟩, (Below.refl _ _).alloc (Nat.le_refl _) _⟩
    exact heap_alloc_new w _
  case round =>
    obtain ⟨j, hj, rfl, ⟨g, m, hm, rfl, hrow⟩, hbel⟩ := hrel
    have HR := Lib.hid hrow
    have HB := Lib.hid hbel
    have hsz := hbel.size
    have HM := Lib.hid hm
    have hmb : m ≤ 61 := by omega
    have hglt := hrow.lt
    clear hrow hbel hm
    by_cases hlt : j < n
    · have hm0 : ¬ m = 0 := by have := HM.out; omega
      have hm1 : ¬ m + 1 = 1 := by omega
      have HSRC : Hid (∀ w0, Below wr.heap.size wr w0 → ∀ (i : Nat) (u : Value), ((rowC j).map intV)[i]? = some u → w0.cell? ((⟨g, 0, none⟩ : Addr).add i) = some u) := Lib.hid fun w0 hb i u hu => by
        rw [Go.WideShapes.add_plain, Nat.zero_add]
        exact cell_of_heap (HR.out.mono hb).2 (by simpa using hu)
      go_wp2_with (first
        | (at_make; refine wpList_make_full _ rfl _ _ 55 rfl w.heap.size 3 i0 (.int .i64 0) 1 Tryz.underlying55 hi hz0 hz1 .i64 .i64 _ _ (m + 1) rfl rfl (by omega) (by omega) (by rw [hz2]; omega) (by unfold maxLen; omega) hsz ?_; intro w0 hown0 hgrow0; have hb0 := Lib.hid ((Below.refl wr.heap.size wr).grown hgrow0 (Nat.le_refl _) (fun k hk => by cases hk)); have ho0 := Lib.hid (toList_madeCells_one (.int .i64 0) (m + 1) ▸ (Nat.mul_one (m + 1) ▸ (own_full hown0).2.2)); clear hown0 hgrow0)
        | ((with_reducible show wpList _ _ _ (⟨some 20, _, _, _, _, _⟩ :: _) _ _); refine wpList_copy_splice rfl (.tmp 18) (.tmp 19) 55 55 rfl 3 Tryz.underlying55 (by rw [hi]; exact congrArg some hz1) (some ⟨wr.heap.size, 1, none⟩) (some ⟨g, 0, none⟩) m m m m rfl rfl wr.heap.size 1 (List.replicate (m + 1) (intV 0)) 3 ho0.out ((rowC j).map intV) (by rw [List.length_map, rowC_len, ← HM.out]; simp) (fun hp => ⟨rfl, ⟨g, 0, none⟩, rfl, HSRC.out w0 hb0.out⟩) (by rw [List.length_map, rowC_len, List.length_replicate]; have := HM.out; omega) (fun u hu => by obtain ⟨y, _, rfl⟩ := List.mem_map.1 hu; rfl) wr.heap.size wr hb0.out (Nat.le_refl _) ?_; intro w2 hg2 hb2; have HG2 := hg2; have HB2 := Lib.hid hb2; clear hg2 hb2))
      have hrep : List.replicate (m + 1) (intV 0) = (List.replicate (j + 2) 0).map intV := by rw [List.map_replicate, HM.out]
      have hspl : ∀ (L cs : List Int) (o : Nat), splice (L.map intV) o (cs.map intV) = (splice L o cs).map intV := fun L cs o => by simp [splice]
      have h2 := HG2.out
      rw [hrep, hspl, nxtL_start] at h2
      have HR2 : Hid (RowIs w2 w.heap.size wr.heap.size (nxtL j 0)) := Lib.hid ⟨hsz, h2⟩
      have HR1 := Lib.hid (HR.out.mono HB2.out)
      have HBB := Lib.hid (HB.out.trans (HB2.out.mono hsz))
      clear hrep hspl h2 HG2 HB2 ho0 hb0 HSRC HR HB
      obtain ⟨wo, hwo⟩ : ∃ wo, wo = wr := ⟨_, rfl⟩
      subst hwo
      generalize wo.heap.size = G at *
      go_loopw [23] (fun i wy => ∃ t : Nat, t ≤ m ∧ i = .int .i64 (t : Int) ∧ (RowIs wy w.heap.size G (nxtL j t) ∧ RowIs wy w.heap.size g (rowC j)) ∧ Below w.heap.size w wy) (fun i _ => m - (intOf i).toNat)
      case atStart => exact ⟨0, Nat.zero_le _, rfl, ⟨HR2.out, HR1.out⟩, HBB.out⟩
      case round =>
        clear HR2 HR1 HBB
        obtain ⟨t, ht, rfl, ⟨hr2, hr1⟩, hbel⟩ := hrel
        have HB := Lib.hid hbel
        have HR2 := Lib.hid hr2
        have HR1 := Lib.hid hr1
        clear hr1 hr2 hbel
        by_cases hlt2 : t < m
        · have htj : t ≤ j := by have := HM.out; omega
          have hx1 := HR1.out.cell (rowC_get j t htj)
          have hx2 := HR2.out.cell (nxtL_get j t t (by omega))
          have hf2 : wr.frozen? ⟨G, t, none⟩ = false := HR2.out.frozen
          have hb1 := ch_bound j t (by omega)
          have hb2 := nxt_bound j t (by omega)
          have HSET := Lib.hid (nxtL_step j t htj)
          have HNE : Hid (g ≠ G) := Lib.hid (by omega)
          clear htj
          generalize nxt j t t = Y at *
          generalize ch j t = X at *
          go_wp2
          go_roundw
          case rel => exact ⟨t + 1, by omega, by go_num, ⟨by rw [← HSET.out]; exact HR2.out.set t _, HR1.out.other HNE.out t _⟩, HB.out.setCell (p := ⟨G, t, none⟩) HR2.out.1 _⟩
          case measure => simp [intOf]; omega
        · have htm : t = m := by omega
          have HE : Hid (nxtL j t = rowC (j + 1)) := Lib.hid (by rw [htm, HM.out, nxtL_end])
          clear htm
          go_wp2
          go_roundw
          case rel => exact ⟨j + 1, by omega, by go_num, ⟨G, m + 1, by have := HM.out; omega, rfl, by rw [← HE.out]; exact HR2.out⟩, HB.out⟩
          case measure => simp [intOf]; omega
    · have hkj : k ≤ j := by omega
      have hx := HR.out.cell (rowC_get j k hkj)
      have HJ : Hid (ch n k = ch j k) := Lib.hid (by rw [show j = n by omega])
      have hkm : k < m := by have := HM.out; omega
      go_wp2
      go_ret
      exact ⟨by rw [HJ.out]; rfl, HB.out⟩
end Go.Proofs.YtkhdjjcflbdegaaGreatDoor
end

section
/- Package params: Prime, Choose. -/
namespace Go.Proofs.YtkhdjjcflbdegaaGreatDoor
open Go.RowKit Go.Extern.Stop Go.Stop Go.Extern

def namePrime : ByteArray := ⟨#[112, 97, 114, 97, 109, 115, 46, 80, 114, 105, 109, 101]⟩
def nameChoose : ByteArray := ⟨#[112, 97, 114, 97, 109, 115, 46, 67, 104, 111, 111, 115, 101]⟩
def nameOf : ByteArray := ⟨#[112, 97, 114, 97, 109, 115, 46, 79, 102]⟩

def Prime_says (n : Int) (w : World) (e : Ending) (w' : World) : Prop := ∃ p : Nat, e = .returned (.tuple #[.int .i64 p, .nilIface]) ∧ LeastP n p ∧ w = w'
/-- What a call says that is refused: 0, and why. -/
def NoSays (k : Int) (c : ByteArray) (v : Value) (w : World) (e : Ending) (w' : World) : Prop := ∃ E, e = .returned (.tuple #[v, E]) ∧ ErrAns k c w' E ∧ Below w.heap.size w w'

end Go.Proofs.YtkhdjjcflbdegaaGreatDoor
end

section
/- The document's numbers: Choose, X, H. -/
namespace Go.Proofs.YtkhdjjcflbdegaaGreatDoor
open Go.RowKit Go.Extern.Stop Go.Stop Go.Extern

theorem ch_step (m j : Nat) : ch (m + (j + 1)) (j + 1) * (j + 1) = ch (m + j) j * (m + (j + 1)) := by
  have h := ch_mul (m + j) j
  rw [show m + (j + 1) = m + j + 1 by omega, Nat.mul_comm, h, Nat.mul_comm]

set_option maxRecDepth 1000000 in
set_option maxHeartbeats 1000000 in
theorem rChoose_any {w : World} (n : Nat) (k : Int) (hn : n ≤ 60) (hk : I64 k) : Calls Tryz.prog 97 #[.int .i64 (n : Int), .int .i64 k] w fun e w' => e = .returned (.int .i64 ((chI n k : Nat) : Int)) ∧ w = w' := by
  by_cases h0 : k < 0
  · have HC := Lib.hid (chI_out n k (.inl h0))
    have d1 : decide (k < 0) = true := decide_eq_true h0
    go_enter Tryz.func97, Tryz.ntmps97
    go_wp2
    go_ret
    exact ⟨by rw [HC.out]; rfl, rfl⟩
  · by_cases h1 : (n : Int) < k
    · have HC := Lib.hid (chI_out n k (.inr h1))
      have d1 : decide (k < 0) = false := decide_eq_false h0
      have d2 : decide ((n : Int) < k) = true := decide_eq_true h1
      go_enter Tryz.func97, Tryz.ntmps97
      go_wp2
      go_ret
      exact ⟨by rw [HC.out]; rfl, rfl⟩
    · obtain ⟨a, rfl⟩ : ∃ a : Nat, k = (a : Int) := ⟨k.toNat, by omega⟩
      have han : a ≤ n := by omega
      have d1 : decide ((a : Int) < 0) = false := decide_eq_false (by omega)
      have d2 : decide ((n : Int) < (a : Int)) = false := decide_eq_false (by omega)
      have d3 : decide (n < a) = false := decide_eq_false (by omega)
      obtain ⟨K, hK1, hK2, hK3⟩ : ∃ K : Nat, (a ≤ n - a ∧ a = K ∨ n - a < a ∧ (n : Int) - a = K) ∧ K ≤ 30 ∧ K ≤ n := ⟨min a (n - a), by omega, by omega, by omega⟩
      have HC : Hid (chI n (a : Int) = ch n K) := Lib.hid (by
        rw [chI_nat]
        rcases hK1 with ⟨_, h⟩ | ⟨_, h⟩
        · rw [h]
        · rw [show K = n - a by omega]; exact (ch_symm n a han).symm)
      rcases hK1 with ⟨h, hK⟩ | ⟨h, hK⟩
      all_goals
        have HK := Lib.hid hK
        clear hK
        go_enter Tryz.func97, Tryz.ntmps97
        go_wp2_with fail
        rw [HK.out]
        go_loopw [5, 6] (fun o i wr => ∃ j t : Nat, t = j + 1 ∧ j ≤ K ∧ i = .int .i64 (t : Int) ∧ o = .int .i64 ((ch (n - K + j) j : Nat) : Int) ∧ w = wr) (fun _ i _ => K + 1 - (intOf i).toNat)
        case atStart => exact ⟨0, 1, rfl, by omega, rfl, by rw [ch_zero]; rfl, rfl⟩
        case round =>
          obtain ⟨j, t, ht, hj, rfl, rfl, rfl⟩ := hrel
          have ht1 : 1 ≤ t := by omega
          by_cases hjK : j < K
          · have hs := ch_step (n - K) j
            have hb := ch_bound (n - K + (j + 1)) (j + 1) (by omega)
            have HN : Hid (ch (n - K + t) t = ch (n - K + (j + 1)) (j + 1)) := Lib.hid (by rw [ht])
            generalize ch (n - K + j) j = O at *
            generalize ch (n - K + (j + 1)) (j + 1) = O' at *
            have hI : (O : Int) * ((n : Int) - (K : Int) + (t : Int)) = (O' : Int) * (t : Int) := by
              have e : (n : Int) - (K : Int) + (t : Int) = ((n - K + (j + 1) : Nat) : Int) := by omega
              rw [e, ← Int.natCast_mul, ← Int.natCast_mul, ← hs, ht]
            have hm : O' * t ≤ 283726776524341248 * 30 := Nat.mul_le_mul hb (by omega)
            have hmI : (O : Int) * ((n : Int) - (K : Int) + (t : Int)) ≤ 8511803295730237440 := by rw [hI, ← Int.natCast_mul]; omega
            have hm0 : 0 ≤ (O : Int) * ((n : Int) - (K : Int) + (t : Int)) := by rw [hI, ← Int.natCast_mul]; omega
            have hq : (O : Int) * ((n : Int) - (K : Int) + (t : Int)) / (t : Int) = (O' : Int) := by
              rw [hI]; exact Int.mul_ediv_cancel _ (by omega)
            have ht0 : (t : Int) ≠ 0 := by omega
            have ht2 : ((t : Int) == 0) = false := by simpa using ht0
            have HT := Lib.hid ht
            have htK : t ≤ K := by omega
            have HC2 : Hid (ch (n - K + t) t = O') := Lib.hid HN.out
            clear hI hs HN ht hm
            go_wp2
            go_roundw
            case rel => exact ⟨j + 1, t + 1, by rw [HT.out], by omega, by go_num, by rw [← HT.out, HC2.out, hq], trivial⟩
            case measure => simp [intOf]; omega
          · have HE : Hid (ch n K = ch (n - K + j) j) := Lib.hid (by rw [show j = K by omega, show n - K + K = n by omega])
            have htK : ¬ t ≤ K := by omega
            clear ht
            go_wp2
            go_ret
            exact ⟨by rw [HC.out, HE.out]; rfl, rfl⟩

set_option maxRecDepth 1000000 in
theorem rX_any {w : World} (k : Nat) (hk : k ≤ 128) : Calls Tryz.prog 55 #[.int .i64 (k : Int)] w fun e w' => ∃ x : Nat, e = .returned (.int .i64 x) ∧ LeastX k x ∧ w = w' := by
  go_enter Tryz.func55, Tryz.ntmps55
  go_wp2
  go_loopw [3] (fun i wr => ∃ x : Nat, i = .int .i64 (x : Int) ∧ 1 ≤ x ∧ x ≤ 17 ∧ (∀ y, 1 ≤ y → y < x → y * (y - 1) < 2 * k) ∧ w = wr) (fun i _ => 17 - (intOf i).toNat)
  case atStart => exact ⟨1, rfl, by omega, by omega, fun y h1 h2 => by omega, rfl⟩
  case round =>
    obtain ⟨x, rfl, h1, h17, hx, rfl⟩ := hrel
    have HX := Lib.hid hx
    clear hx
    have hI : (x : Int) * ((x : Int) - 1) = ((x * (x - 1) : Nat) : Int) := by rw [Int.natCast_mul]; congr 1; omega
    have hm : x * (x - 1) ≤ 17 * 16 := Nat.mul_le_mul h17 (by omega)
    have hm1 : (x : Int) * ((x : Int) - 1) ≤ 272 := by rw [hI]; omega
    have hm0 : 0 ≤ (x : Int) * ((x : Int) - 1) := by rw [hI]; omega
    by_cases h : x * (x - 1) < 2 * k
    · have d1 : decide ((x : Int) * ((x : Int) - 1) < 2 * (k : Int)) = true := decide_eq_true (by rw [hI]; omega)
      have hlt : x < 17 := by
        rcases Nat.lt_or_ge x 17 with h' | h'
        · exact h'
        · obtain rfl : x = 17 := by omega
          omega
      have HH := Lib.hid h
      clear hI h hm
      go_wp2
      go_roundw
      case rel => exact ⟨x + 1, by go_num, by omega, by omega, fun y h1 h2 => by
        rcases (by omega : y < x ∨ y = x) with h4 | rfl
        · exact HX.out y h1 h4
        · exact HH.out, trivial⟩
      case measure => simp [intOf]; omega
    · have d1 : decide ((x : Int) * ((x : Int) - 1) < 2 * (k : Int)) = false := decide_eq_false (by rw [hI]; omega)
      have HH := Lib.hid (Nat.le_of_not_lt h)
      clear hI h hm
      go_wp2
      go_ret
      exact ⟨x, rfl, ⟨h1, HH.out, HX.out⟩, rfl⟩

set_option maxRecDepth 1000000 in
theorem rH_any {w : World} (u : Nat) (hu : u ≤ 252) : Calls Tryz.prog 56 #[.int .i64 (u : Int)] w fun e w' => ∃ h : Nat, e = .returned (.int .i64 h) ∧ LeastH u h ∧ w = w' := by
  go_enter Tryz.func56, Tryz.ntmps56
  go_wp2
  go_loopw [3] (fun i wr => ∃ h : Nat, i = .int .i64 (h : Int) ∧ h ≤ 10 ∧ (∀ j, j < h → ch j ((j + 1) / 2) < u) ∧ w = wr) (fun i _ => 10 - (intOf i).toNat)
  case atStart => exact ⟨0, rfl, by omega, fun j h => by omega, rfl⟩
  case round =>
    obtain ⟨h, rfl, h10, hx, rfl⟩ := hrel
    have HX := Lib.hid hx
    clear hx
    have hI : (h : Int) - (h : Int) / 2 = (((h + 1) / 2 : Nat) : Int) := by omega
    have HI := Lib.hid hI
    have HC : Hid (chI h (((h + 1) / 2 : Nat) : Int) = ch h ((h + 1) / 2)) := Lib.hid (chI_nat _ _)
    clear hI
    go_wp2_with fail
    rw [HI.out]
    refine (rChoose_any h (((h + 1) / 2 : Nat) : Int) (by omega) ⟨by omega, by omega⟩).mono ?_
    rintro e w1 ⟨rfl, rfl⟩
    rw [HC.out]
    by_cases hc : ch h ((h + 1) / 2) < u
    · have hlt : h < 10 := by
        rcases Nat.lt_or_ge h 10 with h' | h'
        · exact h'
        · obtain rfl : h = 10 := by omega
          rw [show (10 + 1) / 2 = 5 from rfl, ch105] at hc
          omega
      have HH := Lib.hid hc
      obtain ⟨y, hy⟩ : ∃ y, ch h ((h + 1) / 2) = y := ⟨_, rfl⟩
      rw [hy] at hc ⊢
      have d1 : decide ((y : Int) < (u : Int)) = true := decide_eq_true (by omega)
      have d2 : decide (y < u) = true := decide_eq_true (by omega)
      clear hy hc
      go_wp2
      go_roundw
      case rel => exact ⟨h + 1, by go_num, by omega, fun j h1 => by
        rcases (by omega : j < h ∨ j = h) with h4 | rfl
        · exact HX.out j h4
        · exact HH.out, trivial⟩
      case measure => simp [intOf]; omega
    · have HH := Lib.hid (Nat.le_of_not_lt hc)
      obtain ⟨y, hy⟩ : ∃ y, ch h ((h + 1) / 2) = y := ⟨_, rfl⟩
      rw [hy] at hc ⊢
      have d1 : decide ((y : Int) < (u : Int)) = false := decide_eq_false (by omega)
      have d2 : decide (y < u) = false := decide_eq_false (by omega)
      clear hy hc
      go_wp2
      go_ret
      exact ⟨h, rfl, ⟨HH.out, HX.out⟩, rfl⟩
end Go.Proofs.YtkhdjjcflbdegaaGreatDoor
end
