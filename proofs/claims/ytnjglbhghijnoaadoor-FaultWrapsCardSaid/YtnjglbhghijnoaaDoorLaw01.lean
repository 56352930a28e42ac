/- The helpers of the first layer's laws, by contracts: cut, made, the document's Call, Chain and Same, awake, is. -/
import Derived.Test.YtnjglbhghijnoaaDoorErrChain
import Derived.BigQuiet
import Derived.WalkSmall
import Derived.Deep.QuietTactic
namespace Go.Proofs.YtnjglbhghijnoaaDoor
open Go.RowKit Go.Extern.Stop Go.Stop Go.Extern

theorem cut_any {w : World} (v : Value) (ss : List ByteArray) (h : StrsAt w v ss) (hl : ss.length ≤ maxLen) :
    Calls Tryd.prog 13 #[v] w fun e w' => ∃ v', e = .returned v' ∧ StrsAt w v' (ss.take 60) ∧ w = w' := by
  unfold maxLen at hl
  obtain ⟨a, cap, rfl, hcap, hcell⟩ := h
  by_cases h60 : ss.length ≤ 60
  · have HC := Lib.hid hcell
    clear hcell
    go_enter Tryd.func13, Tryd.ntmps13
    go_wp2
    go_ret
    exact ⟨_, rfl, ⟨a, cap, by rw [List.take_of_length_le h60]; rfl, by rw [List.take_of_length_le h60]; exact hcap, by rw [List.take_of_length_le h60]; exact HC.out⟩, rfl⟩
  · obtain ⟨b, off, rfl, hc⟩ := hcell (by omega)
    have HC := Lib.hid hc
    clear hc hcell
    go_enter Tryd.func13, Tryd.ntmps13
    go_wp2
    go_ret
    have ht : (ss.take 60).length = 60 := by rw [List.length_take]; omega
    exact ⟨_, rfl, ⟨_, cap, by rw [ht]; rfl, by omega, fun _ => ⟨b, off, rfl, fun j hj => by rw [HC.out j (by omega)]; simp⟩⟩, rfl⟩

theorem made_zero {w : World} (v : Value) : Calls Tryd.prog 12 #[.int .i64 0, v] w fun e w' => e = .returned .nilIface ∧ w = w' := by
  go_enter Tryd.func12, Tryd.ntmps12
  go_wp2
  go_ret
  exact ⟨rfl, rfl⟩

set_option maxRecDepth 1000000 in
theorem made_any {w : World} (n : Int) (hn : n ≠ 0) (v : Value) (ss : List ByteArray) (h : StrsAt w v ss) (hl : ss.length ≤ 60) :
    Calls Tryd.prog 12 #[.int .i64 n, v] w fun e w' => ∃ E, e = .returned E ∧ Chain w' n ss.reverse E ∧ Below w.heap.size w w' := by
  have hnb : (n == 0) = false := by simpa using hn
  obtain ⟨a, cap, rfl, hcap, hcell⟩ := h
  have HC := Lib.hid hcell
  clear hcell
  go_enter Tryd.func12, Tryd.ntmps12
  go_wp2
  go_loopw [5, 6] (fun E i wr => ∃ k : Nat, k ≤ ss.length ∧ i = .int .i64 k ∧ Chain wr n (ss.take k).reverse E ∧ Below w.heap.size w wr) (fun _ i _ => ss.length - (intOf i).toNat)
  case atStart => exact ⟨0, Nat.zero_le _, rfl, .leaf, Below.refl _ _⟩
  case round =>
    obtain ⟨k, hk, rfl, hch, hbel⟩ := hrel
    by_cases hlt : k < ss.length
    · obtain ⟨b, off, rfl, hcc⟩ := HC.out (by omega)
      have hx := hcc k hlt
      have hbl : b < w.heap.size := World.block_lt_of_cell? w _ hx
      have hx2 : wr.cell? ⟨b, off + k, none⟩ = some (.string ss[k]) := (hbel.cell (p := ⟨b, off + k, none⟩) hbl).trans hx
      obtain ⟨u1, v1, rfl⟩ := hch.iface
      have HCh := Lib.hid hch
      have HB := Lib.hid hbel
      have hsz := hbel.size
      clear hch hbel hx hcc
      go_wp2
      go_roundw
      case rel => exact ⟨k + 1, by omega, by go_num, by rw [List.take_succ_eq_append_getElem hlt, List.reverse_append]; exact HCh.out.cons _, HB.out.alloc hsz _⟩
      case measure => simp [intOf]; omega
    · have hk' : k = ss.length := by omega
      have HCh := Lib.hid hch
      have HB := Lib.hid hbel
      clear hch hbel
      go_wp2
      go_ret
      exact ⟨_, rfl, by have := HCh.out; rwa [hk', List.take_length] at this, HB.out⟩

def lastOr (n : Int) (ss : List ByteArray) : ByteArray := if n = 0 then ⟨#[]⟩ else ss.getLastD ⟨#[]⟩

theorem refCall_any {w : World} (n : Int) (v : Value) (ss : List ByteArray) (h : StrsAt w v ss) (hl : ss.length ≤ 60) :
    Calls Tryd.prog 18 #[.int .i64 n, v] w fun e w' => e = .returned (.string (lastOr n ss)) ∧ w = w' := by
  obtain ⟨a, cap, rfl, hcap, hcell⟩ := h
  by_cases hn : n = 0
  · subst hn
    clear hcell
    go_enter Tryd.func18, Tryd.ntmps18
    go_wp2
    go_ret
    exact ⟨rfl, rfl⟩
  · have hnb : (n == 0) = false := by simpa using hn
    by_cases h0 : ss.length = 0
    · have hss : ss = [] := List.length_eq_zero_iff.1 h0
      subst hss
      have HN := Lib.hid hn
      clear hcell hn
      go_enter Tryd.func18, Tryd.ntmps18
      go_wp2
      go_ret
      exact ⟨by rw [lastOr, if_neg HN.out]; rfl, rfl⟩
    · obtain ⟨b, off, rfl, hcc⟩ := hcell (by omega)
      obtain ⟨m, hm⟩ : ∃ m, ss.length = m + 1 := ⟨ss.length - 1, by omega⟩
      have hx := hcc m (by omega)
      have HL : Hid (ss[m]'(by omega) = lastOr n ss) := by
        show _ = _
        have e1 : ss.length - 1 = m := by omega
        have e2 : m < ss.length := by omega
        simp [lastOr, hn, List.getLastD_eq_getLast?, List.getLast?_eq_getElem?, e1, e2]
      have hml : (((m : Int) + 1) == 0) = false := by simp; omega
      have hm60 : m < 60 := by omega
      generalize ss[m]'(by omega) = s at *
      clear hcc hcell hn h0
      rw [hm]
      clear hm
      go_enter Tryd.func18, Tryd.ntmps18
      go_wp2
      go_ret
      exact ⟨by rw [← HL.out]; rfl, rfl⟩

set_option maxRecDepth 1000000 in
set_option maxHeartbeats 1000000 in
theorem refChain_any {w : World} (n : Int) (hn : n ≠ 0) (v : Value) (ss : List ByteArray) (h : StrsAt w v ss) (hl : ss.length ≤ 60) :
    Calls Tryd.prog 20 #[.int .i64 n, v] w fun e w' => ∃ v', e = .returned v' ∧ StrsAt w' v' ss.reverse ∧ Below w.heap.size w w' := by
  obtain ⟨i0, hi, hz0, hz1, hz2⟩ := info_parts Tryd.infoStr
  have hnb : (n != 0) = true := by simpa using hn
  obtain ⟨a, cap, rfl, hcap, hcell⟩ := h
  have HC := Lib.hid hcell
  clear hcell hn
  go_enter Tryd.func20, Tryd.ntmps20
  go_wp2
  go_loopw [5, 6] (fun v i wr => ∃ k : Nat, k ≤ ss.length ∧ i = .int .i64 ((k : Int) - 1) ∧ wr.ownsRow w.heap.size 9 1 v (ss.length - k) ((ss.drop k).reverse.map Value.string) ∧ Below w.heap.size w wr) (fun _ i _ => (intOf i + 1).toNat)
  case atStart => exact ⟨ss.length, Nat.le_refl _, rfl, by simpa using World.ownsRow_made (base := w.heap.size) (e := 9) (size := 1) w #[] 0 (Nat.le_refl _) (by decide) rfl, (Below.refl _ _).alloc (Nat.le_refl _) _⟩
  case round =>
    obtain ⟨k, hk, rfl, hown, hbel⟩ := hrel
    have hsz := hbel.size
    cases k with
    | zero =>
      have HO := Lib.hid hown
      have HB := Lib.hid hbel
      clear hown hbel
      rw [show ((0 : Nat) : Int) - 1 = -1 from rfl]
      go_wp2
      go_ret
      have := HO.out
      rw [List.drop_zero] at this
      exact ⟨_, rfl, .of_owns this, HB.out⟩
    | succ j =>
      obtain ⟨b, off, rfl, hcc⟩ := HC.out (by omega)
      have hx := hcc j (by omega)
      have hbl : b < w.heap.size := World.block_lt_of_cell? w _ hx
      have hx2 : wr.cell? ⟨b, off + j, none⟩ = some (.string ss[j]) := (hbel.cell (p := ⟨b, off + j, none⟩) hbl).trans hx
      have HO := Lib.hid (hown.alloc (.cells #[.string ss[j]] 9))
      have HB := Lib.hid hbel
      have hj : j < ss.length := by omega
      clear hown hbel hx hcc
      rw [show ((j + 1 : Nat) : Int) - 1 = (j : Int) from by omega]
      go_wp2_with (at_builtin; refine wpList_append_own _ rfl (.tmp 19) (.tmp 24) 29 rfl w.heap.size 9 i0 (.string ⟨#[]⟩) 1 16 Tryd.underlying29 hi hz0 hz1 hz2 rfl (by decide) u5 (ss.length - (j + 1)) ((ss.drop (j + 1)).reverse.map Value.string) rfl HO.out ⟨wr.heap.size, 0, none⟩ 1 1 [.string ss[j]] rfl rfl (cell_one_new _ _ _) (fun x hx => by simp at hx; subst hx; rfl) (by unfold maxLen; omega) (by omega) (by simp; omega) ?_; intro v2 w2 hown1 hgrow1 _; have hb2 := Lib.hid ((HB.out.alloc hsz _).grown hgrow1 (by simp; omega) (fun k hk => (HO.out.lt k hk).1)); have ho2 := Lib.hid hown1; clear hown1 hgrow1)
      go_roundw
      case rel =>
        have := ho2.out
        rw [show ss.length - (j + 1) + 1 = ss.length - j from by omega] at this
        refine ⟨j, by omega, rfl, ?_, hb2.out⟩
        rw [List.drop_eq_getElem_cons hj, List.reverse_cons, List.map_append]
        exact this
      case measure => simp [intOf]

theorem refChain_zero {w : World} (v : Value) (ss : List ByteArray) (h : StrsAt w v ss) (hl : ss.length ≤ 60) :
    Calls Tryd.prog 20 #[.int .i64 0, v] w fun e w' => ∃ v', e = .returned v' ∧ StrsAt w' v' [] ∧ Below w.heap.size w w' := by
  obtain ⟨a, cap, rfl, hcap, hcell⟩ := h
  clear hcell
  by_cases h0 : ss.length = 0
  · have hss : ss = [] := List.length_eq_zero_iff.1 h0
    subst hss
    clear h0
    go_enter Tryd.func20, Tryd.ntmps20
    go_wp2
    refine wp_loop_rounds 1 ?_
    rw [rounds_succ]
    go_wp2
    go_ret
    exact ⟨_, rfl, ⟨_, 0, rfl, Nat.le_refl _, fun h => by simp at h⟩, (Below.refl _ _).alloc (Nat.le_refl _) _⟩
  · go_enter Tryd.func20, Tryd.ntmps20
    go_wp2
    refine wp_loop_rounds 1 ?_
    rw [rounds_succ]
    go_wp2
    go_ret
    exact ⟨_, rfl, ⟨_, 0, rfl, Nat.le_refl _, fun h => by simp at h⟩, (Below.refl _ _).alloc (Nat.le_refl _) _⟩

set_option maxRecDepth 1000000 in
theorem Same_refl {w : World} (v1 v2 : Value) (ss : List ByteArray) (h1 : StrsAt w v1 ss) (h2 : StrsAt w v2 ss) (hl : ss.length ≤ 100) :
    Calls Tryd.prog 19 #[v1, v2] w fun e w' => e = .returned (.bool true) ∧ Below w.heap.size w w' := by
  obtain ⟨a1, cap1, rfl, hcap1, hcell1⟩ := h1
  obtain ⟨a2, cap2, rfl, hcap2, hcell2⟩ := h2
  have HC1 := Lib.hid hcell1
  have HC2 := Lib.hid hcell2
  clear hcell1 hcell2
  go_enter Tryd.func19, Tryd.ntmps19
  go_wp2
  go_loopw [5] (fun i wr => ∃ k : Nat, k ≤ ss.length ∧ i = .int .i64 k ∧ Below w.heap.size w wr) (fun i _ => ss.length - (intOf i).toNat)
  case atStart => exact ⟨0, Nat.zero_le _, rfl, Below.refl _ _⟩
  case round =>
    obtain ⟨k, hk, rfl, hbel⟩ := hrel
    have HB := Lib.hid hbel
    by_cases hlt : k < ss.length
    · obtain ⟨b1, off1, rfl, hc1⟩ := HC1.out (by omega)
      obtain ⟨b2, off2, rfl, hc2⟩ := HC2.out (by omega)
      have hx1 := hc1 k hlt
      have hx2 := hc2 k hlt
      have hy1 : wr.cell? ⟨b1, off1 + k, none⟩ = some (.string ss[k]) := (hbel.cell (p := ⟨b1, off1 + k, none⟩) (World.block_lt_of_cell? w _ hx1)).trans hx1
      have hy2 : wr.cell? ⟨b2, off2 + k, none⟩ = some (.string ss[k]) := (hbel.cell (p := ⟨b2, off2 + k, none⟩) (World.block_lt_of_cell? w _ hx2)).trans hx2
      clear hbel hc1 hc2 hx1 hx2
      go_wp2
      go_quiet (fail)
      go_wp2
      go_roundw
      case rel => exact ⟨k + 1, by omega, by go_num, below_drewN HB.out _⟩
      case measure => simp [intOf]; omega
    · clear hbel
      go_wp2
      go_ret
      exact ⟨rfl, HB.out⟩

/-- fault.Call of a chain. -/
theorem Call_chain {w : World} (n : Int) (E : Value) (l : List ByteArray) (h : Chain w n l E) (hg : Laid w) :
    Calls Tryd.prog 15 #[E] w fun e w' => e = .returned (.string (l.headD ⟨#[]⟩)) ∧ Below w.heap.size w w' := by
  cases h with
  | leaf => exact Call_leaf n hg
  | wrap b c E l hc he h1 => exact Call_fault b c hc hg

/-! ### awake -/
set_option maxHeartbeats 1000000 in
theorem awake_any {w : World} (hg : Laid w) : Calls Tryd.prog 9 #[] w fun e w' => e = .returned (.bool true) ∧ Below w.heap.size w w' := by
  have HG := Lib.hid hg
  clear hg
  go_enter Tryd.func9, Tryd.ntmps9
  go_wp2_with fail
  refine (New_chain _ 3 (by decide) _).mono ?_
  rintro e w1 ⟨E1, rfl, hc1, hb1⟩
  have HC1 := Lib.hid hc1
  have HB1 := Lib.hid hb1
  clear hc1 hb1
  go_wp2_with fail
  refine (Wrap_chain _ 3 _ _ _ HC1.out).mono ?_
  rintro e w2 ⟨E2, rfl, hc2, hb2⟩
  have HC2 := Lib.hid hc2
  have HB2 := Lib.hid (HB1.out.trans (hb2.mono HB1.out.size))
  clear hc2 hb2
  go_wp2_with fail
  refine (Num_chain 3 _ _ HC2.out (HG.out.mono HB2.out)).mono ?_
  rintro e w3 ⟨rfl, hb3⟩
  have HC3 := Lib.hid (HC2.out.mono hb3)
  have HB3 := Lib.hid (HB2.out.trans (hb3.mono HB2.out.size))
  clear hb3
  go_wp2_with fail
  refine (Call_chain 3 _ _ HC3.out (HG.out.mono HB3.out)).mono ?_
  rintro e w4 ⟨rfl, hb4⟩
  have HC4 := Lib.hid (HC3.out.mono hb4)
  have HB4 := Lib.hid (HB3.out.trans (hb4.mono HB3.out.size))
  clear hb4
  simp only [List.headD_cons]
  go_wp2_with fail
  refine (Chain_chain 3 _ _ HC4.out (by simp) (HG.out.mono HB4.out)).mono ?_
  rintro e w5 ⟨v, rfl, ⟨a, cap, rfl, -, -⟩, hb5⟩
  have HB5 := Lib.hid (HB4.out.trans (hb5.mono HB4.out.size))
  clear hb5
  go_wp2
  go_ret
  exact ⟨rfl, HB5.out⟩

end Go.Proofs.YtnjglbhghijnoaaDoor
