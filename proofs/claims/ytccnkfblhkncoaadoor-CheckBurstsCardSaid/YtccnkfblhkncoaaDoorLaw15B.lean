/- The fifteenth layer's law CheckBursts. -/
import Derived.Test.YtccnkfblhkncoaaDoorLaw15
namespace Go.Proofs.YtccnkfblhkncoaaDoor
open Go.RowKit Go.Extern.Stop Go.Stop Go.Extern

set_option maxRecDepth 1000000 in
set_option maxHeartbeats 4000000 in
theorem bursts15 (hS : CkSumC) (hA : CkAddC) (hT : CkTakeC) (hP : CkSpoilC) {w : World} (v : Value) (l : List Nat) (z : Int) (mask : Nat) (h : ListAt byteV w v l) (ho : Octets l) (hR : l.length * 1 ≤ reachBytes) (hz : I64 z) (hm : mask < 4294967296) (hg : Laid w) :
    Calls Tryd.prog 5 #[v, .int .i64 z, .int .u32 (mask : Int)] w fun e w' => e = .returned (.bool true) ∧ Below w.heap.size w w' := by
  have hR2 : l.length ≤ 140737488351232 := by unfold reachBytes at hR; omega
  have HA := Lib.hid (hA w v l h ho hR2)
  have HAW := Lib.hid (awake15 hS hT)
  have HG := Lib.hid hg
  have hw := wholeS_add l
  have hlS : (l ++ le4 (crcSum l)).length = l.length + 4 := by rw [List.length_append, le4_length]
  have hoS : Octets (l ++ le4 (crcSum l)) := fun x hx => by
    rcases List.mem_append.1 hx with h | h
    · exact ho x h
    · exact le4_octets _ x h
  have HSP : Hid (∀ (V : World) (v' : Value), ListAt byteV V v' (l ++ le4 (crcSum l)) → Calls Tryd.prog 10 #[v', .int .i64 z, .int .u32 (mask : Int)] V fun e w' => Below V.heap.size V w' ∧
      ((∃ E, e = .returned (.tuple #[nilS, E]) ∧ ∃ x y, E = .iface x y) ∨ (∃ l', Octets l' ∧ l'.length = l.length + 4 ∧ ¬ WholeS l' ∧ ∃ v1, e = .returned (.tuple #[v1, .nilIface]) ∧ ListAt byteV w' v1 l'))) := Lib.hid fun V v' hv => by
    refine (hP V v' _ z mask hv hoS (by omega) hz hm).mono ?_
    rintro e w' ⟨hb, ⟨-, E, rfl, he⟩ | ⟨a1, l', h1, h2, h3, v1, rfl, h4⟩⟩
    · exact ⟨hb, .inl ⟨E, rfl, he.some (by decide)⟩⟩
    · exact ⟨hb, .inr ⟨l', h3, by rw [h2.1, hlS], spoilt_not_whole h2 hoS h3 (by omega) hw h1.2.1 hm h1.2.2.1 h1.2.2.2, v1, rfl, ListAt.of_owns h4⟩⟩
  have HT := Lib.hid hT
  clear hS hA hT hP hw hoS hlS ho h hg hz hm hR
  generalize l ++ le4 (crcSum l) = S at *
  go_enter Tryd.func5, Tryd.ntmps5
  go_wp2_with fail
  refine HA.out.mono ?_
  rintro e w1 ⟨v1, rfl, ho1, hb1⟩
  have HB1 := Lib.hid hb1
  have hl1 : ListAt byteV w1 v1 S := ListAt.of_owns (f := byteV) (l := S) (by
    have h2 := ho1
    exact h2)
  have HC1 := Lib.hid (HSP.out w1 v1 hl1)
  clear ho1 hb1 hl1
  go_wp2_with fail
  refine HC1.out.mono ?_
  rintro e w2 ⟨hb2, ⟨E, rfl, x, y, rfl⟩ | ⟨l', ho', hlen', hw', v2, rfl, hl2⟩⟩
  · have HB2 := Lib.hid (HB1.out.trans (hb2.mono HB1.out.size))
    clear hb2
    go_wp2_with fail
    refine (HAW.out _).mono ?_
    rintro e w3 ⟨rfl, hb3⟩
    have HB3 := Lib.hid (HB2.out.trans (hb3.mono HB2.out.size))
    clear hb3
    go_wp2
    go_ret
    exact ⟨rfl, HB3.out⟩
  · have HB2 := Lib.hid (HB1.out.trans (hb2.mono HB1.out.size))
    have HTK := Lib.hid (HT.out w2 v2 l' hl2 ho' (by omega))
    clear hb2 hl2 ho'
    go_wp2_with fail
    refine HTK.out.mono ?_
    rintro e w3 ⟨hb3, ⟨h, -⟩ | ⟨-, -, E, rfl, he⟩ | ⟨-, h, -⟩⟩
    · omega
    · have HB3 := Lib.hid (HB2.out.trans (hb3.mono HB2.out.size))
      have HE3 := Lib.hid he
      clear hb3 he
      go_wp2_with fail
      refine (tells_ans _ _ _ HE3.out (HG.out.mono HB3.out)).mono ?_
      rintro e w5 ⟨rfl, hb5⟩
      have HB5 := Lib.hid (HB3.out.trans (hb5.mono HB3.out.size))
      clear hb5
      go_wp2_with fail
      refine (HAW.out _).mono ?_
      rintro e w6 ⟨rfl, hb6⟩
      have HB6 := Lib.hid (HB5.out.trans (hb6.mono HB5.out.size))
      clear hb6
      go_wp2
      go_ret
      exact ⟨rfl, HB6.out⟩
    · exact absurd h hw'
end Go.Proofs.YtccnkfblhkncoaaDoor
