/- The sixteenth layer's law WireSpoilt. (Made by gen16s.py.) -/
import Derived.Test.YtmihpbdgilmdiaaDoorLaw16
import Derived.Test.YtmihpbdgilmdiaaDoorLaw16T
namespace Go.Proofs.YtmihpbdgilmdiaaDoor
open Go.RowKit Go.Extern.Stop Go.Stop Go.Extern

theorem wpList_builtW {P : Program} {ops : Array Oper} {rest : List Oper} {o : Oper} {a : Act} {w : World} {Q : Exit → Act → World → Prop} (hw : Region.wanted o (yielded ops a.tmps) = true) (t : TypeId) (parts : Array (Nat × Operand)) (ho : o.op = .build t parts) (cells : Array Value)
    (hb : P.built t (parts.map fun (i, x) => (i, a.eval x)).toList = some cells) (h : wpList P ops Q rest (a.put o.dst (.agg cells)) w) : wpList P ops Q (o :: rest) a w :=
  wpList_step fun K hK => by
    rw [if_pos hw]
    refine wp_build t parts ho (by rw [hb]; rfl) ?_
    rw [hb]
    exact hK _ _ h

set_option maxRecDepth 1000000 in
set_option maxHeartbeats 8000000 in
theorem spoilt16 (hP : WrPutC) (hG : WrGetC) (hSp : CkSpoilC) {w : World} (p : Pkt) (D : Value) (z : Int) (mask : Nat) (hD : ListAt byteV w D p.data) (hF : FitsP p) (hz : I64 z) (hm : mask < 4294967296) (hg : Laid w) :
    Calls Tryd.prog 6 #[pktV p D, .int .i64 z, .int .u32 (mask : Int)] w fun e w' => e = .returned (.bool true) ∧ Below w.heap.size w w' := by
  have HAW := Lib.hid (awake16 hP hG)
  have HG := Lib.hid hg
  obtain ⟨W0, hW0, hb0, hx0⟩ := pkt_laid w p D
  have HW0 := Lib.hid hW0
  have HB0 := Lib.hid hb0
  have HX0 := Lib.hid hx0
  have HPT := Lib.hid (hP W0 p D (hD.mono hb0) hF)
  have HOC := Lib.hid (putP_octets hF.octs)
  have HSP : Hid (ckN p = 0 → ∀ (V : World) (v' : Value), ListAt byteV V v' (putP p) → Calls Tryd.prog 17 #[v', .int .i64 z, .int .u32 (mask : Int)] V fun e w' => Below V.heap.size V w' ∧
      ((∃ E, e = .returned (.tuple #[nilS, E]) ∧ ∃ x y, E = .iface x y) ∨ (∃ l', Octets l' ∧ l'.length = (putP p).length ∧ ¬ WholeS l' ∧ ∃ v1, e = .returned (.tuple #[v1, .nilIface]) ∧ ListAt byteV w' v1 l'))) := Lib.hid fun h0 V v' hv => by
    have hl := putP_len h0
    refine (hSp V v' _ z mask hv HOC.out (by omega) hz hm).mono ?_
    rintro e w' ⟨hb, ⟨-, E, rfl, he⟩ | ⟨a1, l', h1, h2, h3, v1, rfl, h4⟩⟩
    · exact ⟨hb, .inl ⟨E, rfl, he.some (by decide)⟩⟩
    · exact ⟨hb, .inr ⟨l', h3, h2.1, spoilt_not_whole h2 HOC.out h3 (by omega) (putP_whole p) h1.2.1 hm h1.2.2.1 h1.2.2.2, v1, rfl, ListAt.of_owns h4⟩⟩
  have HGT := Lib.hid hG
  unfold pktV at HPT
  unfold pktV
  clear hP hG hSp hW0 hb0 hx0 hg hD hF hz hm
  go_enter Tryd.func6, Tryd.ntmps6
  go_upto_region 1 with fail
  rw [← HW0.out]
  go_wp2_with ((with_reducible show wpList _ _ _ (⟨some 14, _, _, _, _, _⟩ :: _) _ _); refine wpList_load_row rfl 26 (.tmp 3) rfl w.heap.size rfl 26 _ (0, 0) _ HX0.out Tryd.underlying26 rfl (by kernel_rfl) ?_)
  refine HPT.out.mono ?_
  rintro e w1 ⟨hb1, ⟨hne, E, rfl, he⟩ | ⟨hck, v1, rfl, ho1⟩⟩
  · obtain ⟨x, y, rfl⟩ := he.some hne
    have HB1 := Lib.hid (HB0.out.trans (hb1.mono HB0.out.size))
    clear hb1 he hne
    go_wp2_with fail
    refine (HAW.out _).mono ?_
    rintro e w2 ⟨rfl, hb2⟩
    have HB2 := Lib.hid (HB1.out.trans (hb2.mono HB1.out.size))
    clear hb2
    go_wp2
    go_ret
    exact ⟨rfl, HB2.out⟩
  · have HB1 := Lib.hid (HB0.out.trans (hb1.mono HB0.out.size))
    have HL1 := Lib.hid (ListAt.of_owns (f := byteV) (l := putP p) ho1)
    have HS1 := Lib.hid (HSP.out hck w1 _ HL1.out)
    have HPL := Lib.hid (putP_len hck)
    clear hb1 ho1 hck
    generalize putP p = B at *
    go_wp2_with fail
    refine HS1.out.mono ?_
    rintro e w2 ⟨hb2, ⟨E, rfl, x, y, rfl⟩ | ⟨l', ho', hlen', hw', v2, rfl, hl2⟩⟩
    · have HB2 := Lib.hid (HB1.out.trans (hb2.mono HB1.out.size))
      clear hb2
      go_wp2_with fail
      refine (HAW.out _).mono ?_
      rintro e w3 ⟨rfl, hb3⟩
      have HB3 := Lib.hid (HB2.out.trans (hb3.mono HB2.out.size))
      clear hb3
      go_wp2
      go_ret
      exact ⟨rfl, HB3.out⟩
    · have HB2 := Lib.hid (HB1.out.trans (hb2.mono HB1.out.size))
      have hl85 := HPL.out
      have HGW := Lib.hid (HGT.out w2 v2 l' hl2 ho' (by omega))
      have HLN : Hid (4 ≤ l'.length) := Lib.hid (by omega)
      have HNW := Lib.hid hw'
      clear hb2 hl2 ho' hw' hlen' hl85
      go_wp2_with fail
      refine HGW.out.mono ?_
      rintro e w3 ⟨q, k, D3, E3, rfl, he3, hgt, ho3, hb3⟩
      obtain ⟨rfl, rfl⟩ := hgt.same (.inr (.inl ⟨HLN.out, HNW.out, rfl, rfl⟩))
      obtain ⟨a3, c3, hD3, -, -⟩ := own_open ho3
      subst hD3
      obtain ⟨w4, hw4, hb4, hx4⟩ := pkt_laid w3 pkt0 (.slice a3 pkt0.data.length c3)
      have HB3 := Lib.hid (HB2.out.trans (hb3.mono HB2.out.size))
      have HB4 := Lib.hid (HB3.out.trans (hb4.mono HB3.out.size))
      have HX4 := Lib.hid hx4
      have HE4 := Lib.hid (he3.mono hb4)
      have HD4 := Lib.hid ((ListAt.of_owns (f := byteV) ho3).mono hb4)
      have HW4 := Lib.hid hw4
      unfold pktV
      clear hb3 hb4 hx4 he3 ho3 hw4 hgt
      go_upto_region 8 with ((with_reducible show wpList _ _ _ (⟨none, _, _, _, _, _⟩ :: _) _ _); refine wpList_storeRow0 _ rfl 26 (.tmp 11) (.tmp 39) rfl rfl rfl (by kernel_rfl) (by rfl) (by kernel_rfl) ?_)
      rw [← HW4.out]
      go_wp2_with fail
      refine (tells_ans _ _ _ HE4.out (HG.out.mono HB4.out)).mono ?_
      rintro e w5 ⟨rfl, hb5⟩
      have HB5 := Lib.hid (HB4.out.trans (hb5.mono HB4.out.size))
      have HX5 := Lib.hid (HX4.out.mono hb5)
      have HSM := Lib.hid (rSame_any pkt0 pkt0 _ nilS (HD4.out.mono hb5) (ListAt.nil _ _) (fun x hx => by cases hx) (fun x hx => by cases hx))
      rw [decide_eq_true (rfl : pkt0 = pkt0)] at HSM
      unfold pktV at HSM
      clear hb5
      go_wp2_with (first
        | ((with_reducible show wpList _ _ _ (⟨some 44, _, _, _, _, _⟩ :: _) _ _); refine wpList_loadRowW (by rfl) 26 (.tmp 11) rfl w3.heap.size rfl 26 _ (0, 0) _ HX5.out Tryd.underlying26 rfl (by kernel_rfl) ?_)
        | ((with_reducible show wpList _ _ _ (⟨some 45, _, _, _, _, _⟩ :: _) _ _); refine wpList_builtW (by rfl) 26 _ rfl (pktC pkt0 nilS) (by kernel_rfl) ?_))
      refine HSM.out.mono ?_
      rintro e w6 ⟨rfl, hb6⟩
      have HB6 := Lib.hid (HB5.out.trans (hb6.mono HB5.out.size))
      clear hb6
      go_wp2_with fail
      refine (HAW.out _).mono ?_
      rintro e w7 ⟨rfl, hb7⟩
      have HB7 := Lib.hid (HB6.out.trans (hb7.mono HB6.out.size))
      clear hb7
      go_wp2
      go_ret
      exact ⟨rfl, HB7.out⟩
end Go.Proofs.YtmihpbdgilmdiaaDoor
