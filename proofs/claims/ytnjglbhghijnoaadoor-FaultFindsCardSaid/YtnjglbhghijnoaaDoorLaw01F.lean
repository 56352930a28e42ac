/- The walk of the first layer's law FaultFinds. -/
import Derived.Test.YtnjglbhghijnoaaDoorLaw01W
namespace Go.Proofs.YtnjglbhghijnoaaDoor
open Go.RowKit Go.Extern.Stop Go.Stop Go.Extern

/-- The error at the loop's head: none, or a chain. -/
theorem finds_zero {w : World} (m : Int) (v : Value) (ss : List ByteArray) (h : StrsAt w v ss) (hl : ss.length ≤ maxLen) (hg : Laid w) :
    Calls Tryd.prog 7 #[.int .i64 0, .int .i64 m, v] w fun e w' => e = .returned (.bool true) ∧ Below w.heap.size w w' := by
  have HG := Lib.hid hg
  have HS := Lib.hid h
  have HL := Lib.hid hl
  clear hg h hl
  go_enter Tryd.func7, Tryd.ntmps7
  go_wp2_with fail
  refine (New_zero _ _).mono ?_
  rintro e w1 ⟨rfl, rfl⟩
  go_wp2_with fail
  refine (cut_any v ss HS.out HL.out).mono ?_
  rintro e w1 ⟨v', rfl, hs, rfl⟩
  have ht : (ss.take 60).length ≤ 60 := take60
  generalize ss.take 60 = st at *
  obtain ⟨a, cap, rfl, hcap, hcell⟩ := hs
  have HC := Lib.hid hcell
  clear hcell
  go_wp2_with fail
  go_loopw [7, 8] (fun E i wr => ∃ k : Nat, k ≤ st.length ∧ i = .int .i64 k ∧ E = .nilIface ∧ w = wr) (fun _ i _ => st.length - (intOf i).toNat)
  case atStart => exact ⟨0, Nat.zero_le _, rfl, rfl, rfl⟩
  case round =>
    obtain ⟨k, hk, rfl, rfl, rfl⟩ := hrel
    by_cases hlt : k < st.length
    · obtain ⟨b, off, rfl, hcc⟩ := HC.out (by omega)
      have hx := hcc k hlt
      clear hcc
      go_wp2_with fail
      refine (Wrap_nil _ _).mono ?_
      rintro e w1 ⟨rfl, rfl⟩
      go_wp2
      go_roundw
      case rel => exact ⟨k + 1, by omega, by go_num, rfl, trivial⟩
      case measure => simp [intOf]; omega
    · have hk' : st.length ≤ k := by omega
      clear hlt
      go_wp2_with fail
      refine (FIs_nil _ _).mono ?_
      rintro e w1 ⟨rfl, rfl⟩
      go_wp2_with fail
      refine (awake_any HG.out).mono ?_
      rintro e w2 ⟨rfl, hb⟩
      have HB := Lib.hid hb
      clear hb
      go_wp2
      go_ret
      exact ⟨rfl, HB.out⟩

set_option maxHeartbeats 1000000 in
theorem finds_some {w : World} (n m : Int) (hn : n ≠ 0) (v : Value) (ss : List ByteArray) (h : StrsAt w v ss) (hl : ss.length ≤ maxLen) (hg : Laid w) :
    Calls Tryd.prog 7 #[.int .i64 n, .int .i64 m, v] w fun e w' => e = .returned (.bool true) ∧ Below w.heap.size w w' := by
  have hnb : (n == 0) = false := by simpa using hn
  have HN := Lib.hid hn
  have HG := Lib.hid hg
  have HS := Lib.hid h
  have HL := Lib.hid hl
  clear hg h hl hn
  go_enter Tryd.func7, Tryd.ntmps7
  go_wp2_with fail
  refine (New_chain _ n HN.out _).mono ?_
  rintro e w1 ⟨E, rfl, hc1, hb1⟩
  have HC1 := Lib.hid hc1
  have HB1 := Lib.hid hb1
  clear hc1 hb1
  go_wp2_with fail
  refine (cut_any v ss (HS.out.mono HB1.out) HL.out).mono ?_
  rintro e w2 ⟨v', rfl, hs, rfl⟩
  have ht : (ss.take 60).length ≤ 60 := take60
  generalize ss.take 60 = st at *
  obtain ⟨a, cap, rfl, hcap, hcell⟩ := hs
  have HC := Lib.hid hcell
  clear hcell
  go_wp2_with fail
  go_loopw [7, 8] (fun E i wr => ∃ k : Nat, k ≤ st.length ∧ i = .int .i64 k ∧ (∃ l, l.length = k + 1 ∧ Chain wr n l E) ∧ Below w1.heap.size w1 wr) (fun _ i _ => st.length - (intOf i).toNat)
  case atStart => exact ⟨0, Nat.zero_le _, rfl, ⟨_, rfl, HC1.out⟩, Below.refl _ _⟩
  case round =>
    obtain ⟨k, hk, rfl, ⟨l, hll, hch⟩, hbel⟩ := hrel
    have HLL := Lib.hid hll
    have HCh := Lib.hid hch
    obtain ⟨u1, v1, rfl⟩ := hch.iface
    by_cases hlt : k < st.length
    · obtain ⟨b, off, rfl, hcc⟩ := HC.out (by omega)
      have hx0 := hcc k hlt
      have hx := (hbel.cell (p := ⟨b, off + k, none⟩) (World.block_lt_of_cell? w1 _ hx0)).trans hx0
      have HB := Lib.hid hbel
      clear hcc hx0 hbel hll hch
      go_wp2_with fail
      refine (Wrap_chain _ n _ _ _ HCh.out).mono ?_
      rintro e w3 ⟨E3, rfl, hc3, hb3⟩
      have HC3 := Lib.hid hc3
      have HB3 := Lib.hid (HB.out.trans (hb3.mono HB.out.size))
      clear hc3 hb3
      go_wp2
      go_roundw
      case rel => exact ⟨k + 1, by omega, by go_num, ⟨_, by simp [HLL.out], HC3.out⟩, HB3.out⟩
      case measure => simp [intOf]; omega
    · have hk' : st.length = k := by omega
      have HLL2 : Hid (l.length = st.length + 1) := by rw [hk']; exact HLL.out
      have hk2 : st.length ≤ k := by omega
      have HB := Lib.hid (HB1.out.trans (hbel.mono HB1.out.size))
      clear hlt hk' hbel hll hch HLL
      go_wp2_with fail
      refine (Chain_chain n _ l HCh.out (by have := HLL2.out; omega) (HG.out.mono HB.out)).mono ?_
      rintro e w3 ⟨v3, rfl, ⟨a3, cap3, rfl, -, -⟩, hb⟩
      have HB3 := Lib.hid (HB.out.trans (hb.mono HB.out.size))
      have HC3 := Lib.hid (HCh.out.mono hb)
      clear hb
      rw [HLL2.out]
      go_wp2_with fail
      refine (FIs_chain n n _ l HC3.out).mono ?_
      rintro e w4 ⟨rfl, rfl⟩
      rw [show (n == n) = true by simp]
      go_wp2_with fail
      refine (FIs_chain n m _ l HC3.out).mono ?_
      rintro e w4 ⟨rfl, rfl⟩
      have heq : ∀ w, (binOp .eql 4 (.bool (n == m)) (.bool (n == m))).run Tryd.prog w = .ok (.bool true) w := by
        intro w; cases (n == m) <;> kernel_rfl
      go_wp2_with fail
      refine (Is_num n n _ l HC3.out).mono ?_
      rintro e w4 ⟨rfl, rfl⟩
      rw [show (n == n) = true by simp]
      go_wp2_with fail
      refine (awake_any (HG.out.mono HB3.out)).mono ?_
      rintro e w5 ⟨rfl, hb⟩
      have HB5 := Lib.hid (HB3.out.trans (hb.mono HB3.out.size))
      clear hb
      go_wp2
      go_ret
      exact ⟨rfl, HB5.out⟩
end Go.Proofs.YtnjglbhghijnoaaDoor
