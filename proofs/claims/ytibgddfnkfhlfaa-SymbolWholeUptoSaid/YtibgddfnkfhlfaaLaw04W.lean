/- The walk of the fourth layer's law SymbolWhole. -/
import Derived.Test.YtibgddfnkfhlfaaLaw04
import Derived.Test.YtibgddfnkfhlfaaSyRef
import Derived.Test.YtibgddfnkfhlfaaStepAppend
import Derived.StillTailTactics
namespace Go.Proofs.Ytibgddfnkfhlfaa
open Go.RowKit Go.Extern.Stop Go.Stop Go.Extern

theorem flat_length (P : List Nat) (m k : Nat) : (splitTo P m k).flatten.length = k * m := by rw [splitTo_flat]; simp
theorem flat_succ (P : List Nat) (m k : Nat) : (splitTo P m (k + 1)).flatten = (splitTo P m k).flatten ++ pieceAt P m k := by rw [splitTo_succ, List.flatten_append]; simp
theorem flat_take {P : List Nat} {m k : Nat} (h : P.length ≤ k * m) : (splitTo P m k).flatten.take P.length = P := by
  rw [splitTo_flat]
  apply ext_getD (by simp; omega)
  intro j hj
  have hj2 : j < P.length := by simp at hj; omega
  simp [List.getD_eq_getElem?_getD, hj2, show j < k * m by omega]
theorem flat_drop {P : List Nat} {m k : Nat} : zeroB ((splitTo P m k).flatten.drop P.length) = true := by
  rw [splitTo_flat]
  unfold zeroB
  rw [List.all_eq_true]
  intro x hx
  obtain ⟨j, hj, rfl⟩ := List.getElem_of_mem hx
  simp [List.getD_eq_getElem?_getD]

theorem ListAt.takeN' {α : Type} {f : α → Value} {w : World} {a : Option Addr} {n cap : Nat} {l : List α} (h : ListAt f w (.slice a n cap) l) (k : Nat) (hk : k ≤ n) : ListAt f w (.slice a k cap) (l.take k) := by
  have hn : n = l.length := by
    obtain ⟨a', cap', e, -⟩ := h
    cases e
    rfl
  subst hn
  exact h.take k hk

theorem own_form {w : World} {base n : Nat} {e : TypeId} {v : Value} {xs : List Value} (h : w.ownsRow base e 1 v n xs) : (v = .slice none 0 0 ∧ n = 0) ∨ ∃ g cap, v = .slice (some ⟨g, 0, none⟩) n cap ∧ n ≤ cap := by
  rcases h.2 with ⟨rfl, rfl⟩ | ⟨g, cap, cur, rfl, hb, hg, hc, _⟩
  · exact .inl ⟨rfl, rfl⟩
  · exact .inr ⟨g, cap, rfl, hc⟩

theorem zero_empty (w : World) (a : Option Addr) (n c : Nat) (hn : n = 0) (hc : c ≤ maxLen) : Calls Try.prog 14 #[.slice a n c] w (fun e w'' => e = .returned (.bool true) ∧ w'' = w) := by
  subst hn
  refine (refZero_any (.slice a 0 c) [] ⟨a, c, rfl, Nat.zero_le _, hc, fun hp => by simp at hp⟩).mono ?_
  rintro e w'' ⟨h1, h2⟩
  exact ⟨h1, h2.symm⟩

set_option maxRecDepth 1000000 in
set_option maxHeartbeats 8000000 in
theorem whole4 {w : World} (v : Value) (P : List Nat) (n : Int) (h : ListAt byteV w v P) (ho : Octets P) (hn : I64 n) (hP : P.length ≤ 4194304) :
    Calls Try.prog 5 #[v, .int .i64 n] w fun e w' => e = .returned (.bool true) ∧ Below w.heap.size w w' := by
  obtain ⟨j0, hj0, jz0, jz1, jz2⟩ := info_parts info_u8
  have HL := Lib.hid h
  have HN := Lib.hid hn
  have HPO := Lib.hid ho
  obtain ⟨a, cap, rfl, hcap, -, -⟩ := h
  clear hn ho
  by_cases hk : checkS [] n = 0
  · obtain ⟨m, rfl, hm1, hm2, -⟩ := checkS_zero hk
    clear hk
    obtain ⟨hpm1, hpm2⟩ := pieces_mul (p := P) hm1
    have hpk : pieces P m ≤ 4194304 + 64 := by
      have := Nat.le_mul_of_pos_right (pieces P m) hm1
      omega
    go_enter Try.func5, Try.ntmps5
    go_wp2_with fail
    refine (Split_ok _ P m HL.out hm1 hm2 hP).mono ?_
    rintro e w1 ⟨v1, rfl, hm, hb1⟩
    have HM1 := Lib.hid hm.at
    have HB1 := Lib.hid hb1
    have hsz1 := hb1.size
    obtain ⟨la, lc, rfl, hlc, -, hcell⟩ := hm.at.opens
    rw [splitTo_length] at hlc hcell HM1 ⊢
    have HC := Lib.hid hcell
    clear hm hcell hb1
    generalize hK : pieces P m = K at *
    go_wp2_with fail
    have HKE := Lib.hid hK
    clear hK
    go_loopw [7, 8] (fun o i wr => ∃ k : Nat, k ≤ K ∧ i = .int .i64 k ∧ wr.ownsRow w1.heap.size 5 1 o (k * m) ((splitTo P m k).flatten.map byteV) ∧ Below w1.heap.size w1 wr) (fun _ i _ => K - (intOf i).toNat)
    case atStart => exact ⟨0, Nat.zero_le _, rfl, by rw [Nat.zero_mul]; exact World.ownsRow_made (base := w1.heap.size) (e := 5) (size := 1) w1 #[] 0 (Nat.le_refl _) (by decide) rfl, (Below.refl _ _).alloc (Nat.le_refl _) _⟩
    case round =>
      obtain ⟨k, hkK, rfl, hown, hbel⟩ := hrel
      have hsz := hbel.size
      have HB := Lib.hid hbel
      have HO := Lib.hid hown
      by_cases hlt : k < K
      · obtain ⟨b, off, rfl, hcc⟩ := HC.out (by omega)
        obtain ⟨x, hx, hlx⟩ := hcc k hlt
        have hx1 := (hbel.cell (p := ⟨b, off + k, none⟩) (World.block_lt_of_cell? w1 _ hx)).trans hx
        rw [splitTo_getD hlt] at hlx
        have HLX := Lib.hid (hlx.mono hbel)
        have HPL := Lib.hid (pieceAt_length P m k)
        have HFS := Lib.hid (flat_succ P m k)
        have hsm : (k + 1) * m = k * m + m := Nat.succ_mul k m
        have HSM := Lib.hid hsm
        have hkm := Nat.mul_le_mul_right m (show k + 1 ≤ K by omega)
        rw [hsm] at hkm
        obtain ⟨ax, cx, rfl, hcx, -, -⟩ := hlx.bytes m (pieceAt_length P m k)
        obtain ⟨oo, oc, rfl, -, -⟩ := own_open hown
        clear hcc hx hlx hown hbel hsm
        generalize hq : k * m = q at *
        have HQ := Lib.hid hq
        clear hq
        go_wp2_with (at_builtin; refine wpList_append_of (f := byteV) _ rfl (.tmp 30) (.tmp 34) 23 rfl w1.heap.size 5 j0 (.int .u8 0) 1 Try.underlying23 hj0 jz0 jz1 jz2 rfl _ q ((splitTo P m k).flatten.map byteV) rfl HO.out _ (pieceAt P m k) rfl HLX.out (fun y _ => rfl) (by rw [HPL.out]; unfold maxLen; omega) (by rw [HPL.out]; omega) hsz ?_; intro o2 w2 hown1 hgrow1; rw [HPL.out, ← List.map_append, ← HFS.out] at hown1; have hb2 := Lib.hid (HB.out.grown hgrow1 hsz (fun k hk => (HO.out.lt k hk).1)); have ho2 := Lib.hid hown1; clear hown1 hgrow1)
        go_roundw
        case rel => exact ⟨k + 1, by omega, by go_num, by rw [HSM.out]; exact ho2.out, hb2.out⟩
        case measure => simp [intOf]; omega
      · have hk' : k = K := by omega
        rw [hk'] at HO
        have HLA := Lib.hid (ListAt.of_owns HO.out)
        have HB1' := Lib.hid (HB1.out.trans (hbel.mono hsz1))
        have HFT : Hid ((splitTo P m K).flatten.take P.length = P) := Lib.hid (flat_take (by omega))
        have HFD : Hid (zeroB ((splitTo P m K).flatten.drop P.length) = true) := Lib.hid flat_drop
        have HFL := Lib.hid (flat_length P m K)
        have HL1 := Lib.hid (HL.out.mono HB1'.out)
        have hform := own_form HO.out
        have HKN := Lib.hid hpm1
        generalize (splitTo P m K).flatten = F at *
        generalize hN : K * m = N at *
        have hPN : P.length ≤ N := hpm1
        have hm0 : (0 : Int) < (m : Int) := by omega
        have hw0 : IntKind.i64.wrap 0 = 0 := by decide
        have hmn : 0 < m := by omega
        obtain ⟨D, hD⟩ : ∃ D : Nat, D = N - P.length := ⟨_, rfl⟩
        have hI2 : (D : Int) < (m : Int) := by omega
        have hW : IntKind.i64.wrap ((N : Int) - (P.length : Int)) = (D : Int) := by rw [IntKind.wrap_i64]; omega
        clear hD
        have hI1 : (P.length : Int) ≤ (N : Int) := by omega
        clear hown hbel hN
        rcases hform with ⟨rfl, h0⟩ | ⟨g, oc, rfl, hoc⟩
        · have hP0 : P.length = 0 := by omega
          have hP0I : (P.length : Int) = 0 := by omega
          have hks : (convert 23 9 (.slice none 0 0)).run Try.prog wr.drew = .ok (.string (strN P)) wr.drew := (show ListAt byteV wr.drew (.slice none 0 0) P from ⟨none, 0, by rw [hP0], by omega, Nat.zero_le _, fun hp => by omega⟩).str
          have hkp := (HL1.out.mono (Below.refl _ _).drew).str
          generalize strN P = str at *
          rw [hP0] at *
          subst h0
          go_wp2_with fail
          refine wp_region_still_tail 32 (by kernel_rfl) (by kernel_rfl) ?_
          simp only [List.take_succ_cons, List.take_zero, List.drop_succ_cons, List.drop_zero]
          repeat still_step
          still_call (zero_empty _ _ _ _ (by omega) (by unfold maxLen; omega))
          repeat still_step
          refine wpStill_nil ?_
          change wpList _ _ _ _ _ wr.drew
          have HBD := Lib.hid HB1'.out.drew
          generalize wr.drew = wq at HBD ⊢
          go_wp2_with fail
          refine (awake4 _).mono ?_
          rintro e wz ⟨rfl, hbz⟩
          have HBZ := Lib.hid (HBD.out.trans (hbz.mono HBD.out.size))
          clear hbz
          go_wp2
          go_ret
          exact ⟨rfl, HBZ.out⟩
        · have hI3 : (N : Int) ≤ (oc : Int) := by omega
          have hI4 : (P.length : Int) ≤ (oc : Int) := by omega
          have HTK := Lib.hid ((HLA.out.takeN' P.length hPN).mono (Below.refl _ _).drew)
          rw [HFT.out] at HTK
          have hks := HTK.out.str
          have hkp := (HL1.out.mono (Below.refl _ _).drew).str
          generalize strN P = str at *
          by_cases hcp : oc = P.length
          · have hNP : N = P.length := by omega
            subst hcp
            go_wp2_with fail
            refine wp_region_still_tail 32 (by kernel_rfl) (by kernel_rfl) ?_
            simp only [List.take_succ_cons, List.take_zero, List.drop_succ_cons, List.drop_zero]
            repeat still_step
            still_call (zero_empty _ _ _ _ (by omega) (by unfold maxLen; omega))
            repeat still_step
            refine wpStill_nil ?_
            change wpList _ _ _ _ _ wr.drew
            have HBD := Lib.hid HB1'.out.drew
            generalize wr.drew = wq at HBD ⊢
            go_wp2_with fail
            refine (awake4 _).mono ?_
            rintro e wz ⟨rfl, hbz⟩
            have HBZ := Lib.hid (HBD.out.trans (hbz.mono HBD.out.size))
            clear hbz
            go_wp2
            go_ret
            exact ⟨rfl, HBZ.out⟩
          · have HLA' := Lib.hid HLA.out
            have HZL : Hid (ListAt byteV wr.drew (.slice (some ⟨g, P.length, none⟩) (N - P.length) (oc - P.length)) (F.drop P.length)) := Lib.hid (by
              have h := HLA.out
              rw [← HFL.out] at h
              have h2 := (h.cutAt P.length (by rw [HFL.out]; exact hPN)).mono (Below.refl _ _).drew
              rw [HFL.out, Nat.zero_add] at h2
              exact h2)
            clear HLA'
            go_wp2_with fail
            have HZC : Hid (Calls Try.prog 14 #[.slice (some ⟨g, P.length, none⟩) (N - P.length) (oc - P.length)] wr.drew (fun e w'' => e = .returned (.bool true) ∧ w'' = wr.drew)) := Lib.hid ((refZero_any _ (F.drop P.length) HZL.out).mono fun e w'' ⟨h1, h2⟩ => ⟨by rw [h1, HFD.out], h2.symm⟩)
            refine wp_region_still_tail 32 (by kernel_rfl) (by kernel_rfl) ?_
            simp only [List.take_succ_cons, List.take_zero, List.drop_succ_cons, List.drop_zero]
            repeat still_step
            still_call HZC.out
            repeat still_step
            refine wpStill_nil ?_
            change wpList _ _ _ _ _ wr.drew
            have HBD := Lib.hid HB1'.out.drew
            generalize wr.drew = wq at HBD ⊢
            go_wp2_with fail
            refine (awake4 _).mono ?_
            rintro e wz ⟨rfl, hbz⟩
            have HBZ := Lib.hid (HBD.out.trans (hbz.mono HBD.out.size))
            clear hbz
            go_wp2
            go_ret
            exact ⟨rfl, HBZ.out⟩
  · generalize hkk : checkS [] n = k at hk
    have HKK := Lib.hid hkk
    clear hkk
    go_enter Try.func5, Try.ntmps5
    go_wp2_with fail
    refine (Split_bad _ P n k HL.out HN.out HKK.out hk).mono ?_
    rintro e w1 ⟨E1, rfl, he1, hb1⟩
    have HB1 := Lib.hid hb1
    obtain ⟨u, x, rfl⟩ := he1.some hk
    clear he1 hb1
    go_wp2_with fail
    refine (awake4 _).mono ?_
    rintro e wz ⟨rfl, hbz⟩
    have HBZ := Lib.hid (HB1.out.trans (hbz.mono HB1.out.size))
    clear hbz
    go_wp2
    go_ret
    exact ⟨rfl, HBZ.out⟩
end Go.Proofs.Ytibgddfnkfhlfaa
