/- The fifteenth layer's law CheckSpoils. -/
import Derived.Test.YtccnkfblhkncoaaDoorLaw15
import Derived.Laws.AppendOwnNone
namespace Go.Proofs.YtccnkfblhkncoaaDoor
open Go.RowKit Go.Extern.Stop Go.Stop Go.Extern

theorem SpoilOk.same {l : List Nat} {z : Int} {mask a b : Nat} (h1 : SpoilOk l z mask a) (h2 : SpoilOk l z mask b) : a = b := by
  have e1 := h1.1
  have e2 := h2.1
  omega

/-- What Spoil says, on both sides. -/
theorem ckSpoil_both (hP : CkSpoilC) (l : List Nat) (z : Int) (mask : Nat) (ho : Octets l) (hR : l.length ≤ 140737488351232) (hz : I64 z) (hm : mask < 4294967296) : ∃ (k : Int) (L' : List Nat),
    (∀ (V : World) (v : Value), ListAt byteV V v l → Calls Tryd.prog 10 #[v, .int .i64 z, .int .u32 (mask : Int)] V fun e w' => ∃ v1 E, e = .returned (.tuple #[v1, E]) ∧ ErrAns k nameCkSpoil w' E ∧ w'.ownsRow V.heap.size 5 1 v1 L'.length (L'.map byteV) ∧ Below V.heap.size V w') ∧
    (∀ (V : World) (v : Value), ListAt byteV V v l → Calls Tryd.prog 11 #[v, .int .i64 z, .int .u32 (mask : Int)] V fun e w' => ∃ v2, e = .returned (.tuple #[v2, .int .i64 k]) ∧ ListAt byteV w' v2 L' ∧ Below V.heap.size V w') := by
  have hR2 : l.length ≤ 140737488351248 := by omega
  by_cases hx : ∃ at0, SpoilOk l z mask at0
  · obtain ⟨at0, hok⟩ := hx
    refine ⟨0, spoilN at0 mask l 32, fun V v hv => (hP V v l z mask hv ho hR2 hz hm).mono ?_, fun V v hv => (rSpoil_any v l z mask hv ho hR hz hm).mono ?_⟩
    · rintro e w' ⟨hb, ⟨h, -⟩ | ⟨a1, l', h1, h2, h3, v1, rfl, h4⟩⟩
      · exact absurd hok (h at0)
      · obtain rfl := h1.same hok
        rw [← h2.unique (spoilN_spoilt a1 mask l hm) h3 (spoilN_octets ho 32), h2.1]
        exact ⟨v1, _, rfl, ErrAns.none _ _, h4, hb⟩
    · rintro e w' ⟨hb, ⟨h, -⟩ | ⟨a1, h1, v1, rfl, h4⟩⟩
      · exact absurd hok (h at0)
      · obtain rfl := h1.same hok
        exact ⟨v1, rfl, ListAt.of_owns h4, hb⟩
  · refine ⟨2, [], fun V v hv => (hP V v l z mask hv ho hR2 hz hm).mono ?_, fun V v hv => (rSpoil_any v l z mask hv ho hR hz hm).mono ?_⟩
    · rintro e w' ⟨hb, ⟨-, E, rfl, he⟩ | ⟨a1, l', h1, -⟩⟩
      · exact ⟨_, E, rfl, he, World.ownsRow_nil _ _ _ _, hb⟩
      · exact absurd ⟨a1, h1⟩ hx
    · rintro e w' ⟨hb, ⟨-, rfl⟩ | ⟨a1, h1, -⟩⟩
      · exact ⟨_, rfl, ListAt.nil _ _, hb⟩
      · exact absurd ⟨a1, h1⟩ hx

set_option maxRecDepth 1000000 in
set_option maxHeartbeats 4000000 in
theorem spoils15 (hS : CkSumC) (hT : CkTakeC) (hP : CkSpoilC) {w : World} (v : Value) (l : List Nat) (z : Int) (mask : Nat) (h : ListAt byteV w v l) (ho : Octets l) (hR : l.length * 1 ≤ reachBytes) (hz : I64 z) (hm : mask < 4294967296) (hg : Laid w) :
    Calls Tryd.prog 4 #[v, .int .i64 z, .int .u32 (mask : Int)] w fun e w' => e = .returned (.bool true) ∧ Below w.heap.size w w' := by
  obtain ⟨j0, hj0, jz0, jz1, jz2⟩ := info_parts info_u8
  have hR2 : l.length ≤ 140737488351232 := by unfold reachBytes at hR; omega
  have hlen := h.len
  obtain ⟨k, L', hP, hD⟩ := ckSpoil_both hP l z mask ho hR2 hz hm
  have HP := Lib.hid hP
  have HD := Lib.hid hD
  have HAW := Lib.hid (awake15 hS hT)
  have HG := Lib.hid hg
  have HL := Lib.hid h
  obtain ⟨a, cap, rfl, -, -, -⟩ := h
  have HOS := Lib.hid (World.ownsRow_made (base := w.heap.size) (e := 5) (size := 1) w #[] 0 (Nat.le_refl _) (by decide) rfl)
  have HBe := Lib.hid ((Below.refl w.heap.size w).alloc (Nat.le_refl _) (.cells #[] 5))
  have HLe := Lib.hid (HL.out.mono HBe.out)
  clear hS hT hP hD ho hg hR hz hm
  go_enter Tryd.func4, Tryd.ntmps4
  go_wp2_with (at_builtin; refine wpList_append_of _ rfl (.tmp 12) (.tmp 13) 22 rfl w.heap.size 5 j0 (.int .u8 0) 1 Tryd.underlying22 hj0 jz0 jz1 jz2 rfl (.slice (some ⟨w.heap.size, 0, none⟩) 0 0) 0 [] rfl HOS.out (.slice a l.length cap) l rfl HLe.out (fun y _ => rfl) (by unfold maxLen; omega) (by omega) (by simp) ?_; intro v5 w1 ho1 hg1; have HO1 := Lib.hid (show w1.ownsRow w.heap.size 5 1 v5 l.length (l.map byteV) by simpa using ho1); have HB1 := Lib.hid (HBe.out.grown hg1 (by simp) (fun k hk => (HOS.out.lt k hk).1)); clear ho1 hg1)
  have hl1 : ListAt byteV w1 v5 l := ListAt.of_owns HO1.out
  refine (HP.out w1 v5 hl1).mono ?_
  rintro e w2 ⟨v1, E, rfl, he, hv1, hb2⟩
  have HB2 := Lib.hid (HB1.out.trans (hb2.mono HB1.out.size))
  have HO2 := Lib.hid (hl1.mono hb2)
  have HE2 := Lib.hid he
  have HV2 := Lib.hid (ListAt.of_owns (f := byteV) (l := L') hv1)
  have HL2 := Lib.hid (HL.out.mono HB2.out)
  clear hl1 he hb2 hv1
  go_wp2_with fail
  refine (HD.out _ _ HL2.out).mono ?_
  rintro e w4 ⟨v2, rfl, hl2, hb4⟩
  have HB4 := Lib.hid (HB2.out.trans (hb4.mono HB2.out.size))
  have HE4 := Lib.hid (HE2.out.mono hb4)
  have HV4 := Lib.hid (HV2.out.mono hb4)
  have HO4 := Lib.hid (HO2.out.mono hb4)
  have HL4 := Lib.hid hl2
  clear hl2 hb4
  go_wp2_with fail
  refine (tells_ans _ _ _ HE4.out (HG.out.mono HB4.out)).mono ?_
  rintro e w5 ⟨rfl, hb5⟩
  have HB5 := Lib.hid (HB4.out.trans (hb5.mono HB4.out.size))
  have hs1 := (HV4.out.mono hb5).str
  have hs2 := (HL4.out.mono hb5).str
  have hs3 := (HO4.out.mono hb5).str
  have hs4 := (HL.out.mono HB5.out).str
  obtain ⟨b1, c1, rfl, -, -, -⟩ := HV4.out
  obtain ⟨b2, c2, rfl, -, -, -⟩ := HL4.out
  obtain ⟨b3, c3, rfl, -, -, -⟩ := HO4.out
  generalize strN L' = str at *
  generalize strN l = stl at *
  clear hb5
  go_wp2_with fail
  refine (HAW.out _).mono ?_
  rintro e w6 ⟨rfl, hb6⟩
  have HB6 := Lib.hid (HB5.out.trans (hb6.mono HB5.out.size))
  clear hb6
  go_wp2
  go_ret
  exact ⟨rfl, HB6.out⟩
end Go.Proofs.YtccnkfblhkncoaaDoor
