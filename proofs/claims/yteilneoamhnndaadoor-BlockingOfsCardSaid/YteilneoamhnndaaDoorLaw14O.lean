/- The fourteenth layer's law BlockingOfs. -/
import Derived.Test.YteilneoamhnndaaDoorLaw14
import Derived.Test.YteilneoamhnndaaDoorLaw14T
namespace Go.Proofs.YteilneoamhnndaaDoor
open Go.RowKit Go.Extern.Stop Go.Stop Go.Extern

set_option maxRecDepth 1000000 in
set_option maxHeartbeats 4000000 in
theorem ofs14 {w : World} (s b m : Int) (hs : I64 s) (hg : Laid w) : Calls Tryd.prog 3 #[.int .i64 s, .int .i64 b, .int .i64 m] w fun e w' => e = .returned (.bool true) ∧ Below w.heap.size w w' := by
  have HG := Lib.hid hg
  obtain ⟨x, y, n, l, q, k, hO, hR⟩ := bkOf_both s b m hs
  have HO := Lib.hid hO
  have HR := Lib.hid hR
  clear hg hO hR hs
  go_enter Tryd.func3, Tryd.ntmps3
  go_wp2_with fail
  refine (HO.out w).mono ?_
  rintro e w1 ⟨E, rfl, he, hb1⟩
  obtain ⟨W, hW, hbW, hbx⟩ := pl_laid w1 x y n l q
  have HW := Lib.hid hW
  have HB1 := Lib.hid (hb1.trans (hbW.mono hb1.size))
  have HBX := Lib.hid hbx
  have HE := Lib.hid (he.mono hbW)
  clear hb1 hW hbW hbx he
  unfold plV plC
  go_wp2_with fail
  rw [← HW.out]
  refine (HR.out W).mono ?_
  rintro e w2 ⟨rfl, hb2⟩
  obtain ⟨V, hV, hbV, hby⟩ := pl_laid w2 x y n l q
  have HV := Lib.hid hV
  have HB2 := Lib.hid (HB1.out.trans ((hb2.trans (hbV.mono hb2.size)).mono HB1.out.size))
  have HBY := Lib.hid hby
  have HBX2 := Lib.hid ((HBX.out.mono hb2).mono hbV)
  have HE2 := Lib.hid ((HE.out.mono hb2).mono hbV)
  clear hb2 hV hbV hby
  unfold plV plC
  go_wp2_with fail
  rw [← HV.out]
  refine (tells_ans k nameBkOf E HE2.out (HG.out.mono HB2.out)).mono ?_
  rintro e w3 ⟨rfl, hb3⟩
  have HB3 := Lib.hid (HB2.out.trans (hb3.mono HB2.out.size))
  obtain ⟨c0, c1, c2, c3, c4⟩ := (HBX2.out.mono hb3).cells
  obtain ⟨e0, e1, e2, e3, e4⟩ := (HBY.out.mono hb3).cells
  clear hb3
  go_wp2_with fail
  refine (awake14 _).mono ?_
  rintro e w4 ⟨rfl, hb4⟩
  have HB4 := Lib.hid (HB3.out.trans (hb4.mono HB3.out.size))
  clear hb4
  go_wp2
  go_ret
  exact ⟨rfl, HB4.out⟩
end Go.Proofs.YteilneoamhnndaaDoor
