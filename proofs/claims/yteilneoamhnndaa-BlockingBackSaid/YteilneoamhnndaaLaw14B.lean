/- The fourteenth layer's law BlockingBack. -/
import Derived.Test.YteilneoamhnndaaBkBack
namespace Go.Proofs.Yteilneoamhnndaa
open Go.RowKit Go.Extern.Stop Go.Stop Go.Extern

set_option maxRecDepth 1000000 in
set_option maxHeartbeats 4000000 in
theorem back14 {w : World} (v : Value) (P : List Nat) (b m : Int) (hP : ListAt byteV w v P) : Calls Try.prog 3 #[v, .int .i64 b, .int .i64 m] w fun e w' => e = .returned (.bool true) ∧ Below w.heap.size w w' := by
  have hlen := hP.len
  have HP := Lib.hid hP
  obtain ⟨av, cv, rfl, -, -, -⟩ := hP
  rcases bkOf_ways (P.length : Int) b m (by unfold I64; omega) with ⟨k, hk, hO⟩ | ⟨S, B, M, n, l, q, hSe, rfl, rfl, hS, hPl, hn, hO⟩
  · have HO := Lib.hid hO
    clear hO
    go_enter Try.func3, Try.ntmps3
    go_wp2_with fail
    refine (HO.out w).mono ?_
    rintro e w1 ⟨E, rfl, he, hb1⟩
    obtain ⟨W, hW, hbW, hbx⟩ := pl_laid w1 0 0 0 0 0
    have HW := Lib.hid hW
    have HB1 := Lib.hid (hb1.trans (hbW.mono hb1.size))
    have HBX := Lib.hid hbx
    obtain ⟨u, x, rfl⟩ := he.some hk
    clear hb1 hW hbW hbx he
    obtain ⟨c0, c1, c2, c3, c4⟩ := HBX.out.cells
    unfold plV plC
    go_upto_region 2 with fail
    rw [← HW.out]
    go_wp2_with fail
    refine (awake14 _).mono ?_
    rintro e w2 ⟨rfl, hb2⟩
    have HB2 := Lib.hid (HB1.out.trans (hb2.mono HB1.out.size))
    clear hb2
    go_wp2
    go_ret
    exact ⟨rfl, HB2.out⟩
  · have hlS : P.length = S := by omega
    have hK := hPl.ok hn
    have HK := Lib.hid hK
    have HO := Lib.hid hO
    have HLS := Lib.hid hlS
    have HJ := Lib.hid (cut_join hK P hlS)
    have hsl := hK.size_le
    have HCUT : Hid (∀ V : World, ListAt byteV V (.slice av P.length cv) P → Calls Try.prog 7 #[.slice av P.length cv, .agg #[.int .i64 (S : Int), .int .i64 (B : Int), .int .i64 (n : Int), .int .i64 (l : Int), .int .i64 (q : Int)]] V fun e w' => ∃ g, e = .returned (.tuple #[.slice (some ⟨g, 0, none⟩) n n, .nilIface]) ∧ CubeAt byteV w' (.slice (some ⟨g, 0, none⟩) n n) (cutL S B n l q P) ∧ Below V.heap.size V w') := Lib.hid fun V hV => by
      refine (bkCut_ok hK _ P hV hlS).mono ?_
      rintro e w' ⟨g, rfl, hc, hb⟩
      exact ⟨g, rfl, hc.at, hb⟩
    have HJN : Hid (∀ (V : World) (g : Nat), CubeAt byteV V (.slice (some ⟨g, 0, none⟩) n n) (cutL S B n l q P) → Calls Try.prog 8 #[.agg #[.int .i64 (S : Int), .int .i64 (B : Int), .int .i64 (n : Int), .int .i64 (l : Int), .int .i64 (q : Int)], .slice (some ⟨g, 0, none⟩) n n] V fun e w' => ∃ g', e = .returned (.tuple #[.slice (some ⟨g', 0, none⟩) P.length P.length, .nilIface]) ∧ ListAt byteV w' (.slice (some ⟨g', 0, none⟩) P.length P.length) P ∧ Below V.heap.size V w') := Lib.hid fun V g hV => by
      refine (bkJoin_any hK _ _ hV).mono ?_
      rintro e w' ⟨hb, ⟨-, g', rfl, -, hbi, -⟩ | ⟨hno, -⟩⟩
      · rw [HJ.out.2] at hbi
        refine ⟨g', by rw [HLS.out], hbi.at (by unfold maxLen; omega), hb⟩
      · exact absurd HJ.out.1 hno
    rw [← hlS] at HO
    clear hO hPl hK hSe hlS HJ
    go_enter Try.func3, Try.ntmps3
    go_wp2_with fail
    rw [← HLS.out] at HCUT HJN
    refine (HO.out w).mono ?_
    rintro e w1 ⟨rfl, hb1⟩
    obtain ⟨W, hW, hbW, hbx⟩ := pl_laid w1 (P.length : Int) (B : Int) (n : Int) (l : Int) (q : Int)
    have HW := Lib.hid hW
    have HB1 := Lib.hid (hb1.trans (hbW.mono hb1.size))
    have HBX := Lib.hid hbx
    clear hb1 hW hbW hbx
    obtain ⟨c0, c1, c2, c3, c4⟩ := HBX.out.cells
    unfold plV plC
    go_upto_region 2 with fail
    rw [← HW.out]
    go_wp2_with fail
    refine (HCUT.out W (HP.out.mono HB1.out)).mono ?_
    rintro e w2 ⟨g, rfl, hc2, hb2⟩
    have HB2 := Lib.hid (HB1.out.trans (hb2.mono HB1.out.size))
    have HX2 := Lib.hid (HBX.out.mono hb2)
    have HC2 := Lib.hid hc2
    clear c0 c1 c2 c3 c4 hb2 hc2
    obtain ⟨c0, c1, c2, c3, c4⟩ := HX2.out.cells
    go_wp2_with fail
    refine (HJN.out w2 g HC2.out).mono ?_
    rintro e w3 ⟨g', rfl, hl3, hb3⟩
    have HB3 := Lib.hid (HB2.out.trans (hb3.mono HB2.out.size))
    have hst1 := hl3.str
    have hst2 := (HP.out.mono HB3.out).str
    clear c0 c1 c2 c3 c4
    obtain ⟨c0, c1, c2, c3, c4⟩ := (HX2.out.mono hb3).cells
    clear hb3 hl3
    generalize strN P = st at *
    go_wp2_with fail
    refine (awake14 _).mono ?_
    rintro e w4 ⟨rfl, hb4⟩
    have HB4 := Lib.hid (HB3.out.trans (hb4.mono HB3.out.size))
    clear hb4
    go_wp2
    go_ret
    exact ⟨rfl, HB4.out⟩
end Go.Proofs.Yteilneoamhnndaa
