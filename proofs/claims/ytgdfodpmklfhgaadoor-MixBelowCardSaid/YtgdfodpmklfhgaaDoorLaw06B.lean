/- The sixth layer's law MixBelow: the walk. -/
import Derived.Test.YtgdfodpmklfhgaaDoorLaw06
import Derived.Test.YtgdfodpmklfhgaaDoorLaw06T
import Derived.Test.YtgdfodpmklfhgaaDoorMiB
namespace Go.Proofs.YtgdfodpmklfhgaaDoor
open Go.RowKit Go.Extern.Stop Go.Stop Go.Extern

set_option maxRecDepth 1000000 in
set_option maxHeartbeats 1000000 in
theorem below6 {w : World} (x s : Nat) (m : Int) (hx : x < 4294967296) (hs : s < 4294967296) (hm : -9223372036854775808 ≤ m ∧ m ≤ 9223372036854775807) (hg : Laid w) :
    Calls Tryd.prog 3 #[.int .u32 (x : Int), .int .u32 (s : Int), .int .i64 m] w fun e w' => e = .returned (.bool true) ∧ Below w.heap.size w w' := by
  have HG := Lib.hid hg
  clear hg
  by_cases hin : 1 ≤ m ∧ m ≤ 1048576
  · obtain ⟨M, rfl⟩ : ∃ M : Nat, m = (M : Int) := ⟨m.toNat, by omega⟩
    have h1 : 1 ≤ M := by omega
    have h2 : M ≤ 1048576 := by omega
    have HC := Lib.hid (boundC_in h1 h2)
    have hr : mixN x s % M < M := Nat.mod_lt _ (by omega)
    obtain ⟨r, hr0⟩ : ∃ r, mixN x s % M = r := ⟨_, rfl⟩
    rw [hr0] at hr
    have HR := Lib.hid hr0
    have hrI : (r : Int) < (M : Int) := by omega
    clear hr0 hin
    go_enter Tryd.func3, Tryd.ntmps3
    go_wp2_with fail
    refine (Below_in x s M h1 h2).mono ?_
    rintro e w1 ⟨rfl, rfl⟩
    rw [HR.out]
    go_wp2_with fail
    refine (rBound_any (M : Int)).mono ?_
    rintro e w1 ⟨rfl, rfl⟩
    rw [HC.out]
    go_wp2_with fail
    refine (tells_nil _).mono ?_
    rintro e w1 ⟨rfl, rfl⟩
    go_wp2_with fail
    refine (rBelow_any x s M hx hs h1 h2).mono ?_
    rintro e w1 ⟨rfl, rfl⟩
    rw [HR.out]
    go_wp2_with fail
    refine (awake6 _).mono ?_
    rintro e w1 ⟨rfl, rfl⟩
    go_wp2
    go_ret
    exact ⟨rfl, Below.refl _ _⟩
  · have hout : m < 1 ∨ 1048576 < m := by omega
    have HO := Lib.hid hout
    have HC := Lib.hid (boundC_out hout)
    clear hout hin
    go_enter Tryd.func3, Tryd.ntmps3
    go_wp2_with fail
    refine (Below_out x s m HO.out).mono ?_
    rintro e w1 ⟨E1, rfl, hc1, hb1⟩
    have HC1 := Lib.hid hc1
    have HB1 := Lib.hid hb1
    obtain ⟨u, v, rfl⟩ := hc1.some (by decide)
    clear hc1 hb1
    go_wp2_with fail
    refine (rBound_any m).mono ?_
    rintro e w2 ⟨rfl, rfl⟩
    rw [HC.out]
    go_wp2_with fail
    refine (tells_ans 1 _ _ HC1.out (HG.out.mono HB1.out)).mono ?_
    rintro e w2 ⟨rfl, hb2⟩
    have HB2 := Lib.hid (HB1.out.trans (hb2.mono HB1.out.size))
    clear hb2
    go_wp2_with fail
    refine (awake6 _).mono ?_
    rintro e w3 ⟨rfl, rfl⟩
    go_wp2
    go_ret
    exact ⟨rfl, HB2.out⟩
end Go.Proofs.YtgdfodpmklfhgaaDoor
