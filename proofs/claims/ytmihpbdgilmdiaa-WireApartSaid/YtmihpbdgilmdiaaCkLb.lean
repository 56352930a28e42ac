/- The landed package check: Take (layer 15). -/
import Derived.Test.YtmihpbdgilmdiaaJ7
import Derived.BigQuiet
namespace Go.Proofs.Ytmihpbdgilmdiaa
open Go.RowKit Go.Extern.Stop Go.Stop Go.Extern

/-- The bytes behind the first k of a slice of which one is there at least. -/
theorem listAt_drop {w : World} {b off cap : Nat} {l : List Nat} (h : ListAt byteV w (.slice (some ⟨b, off, none⟩) l.length cap) l) (k : Nat) (hk : k < l.length) : ListAt byteV w (.slice (some ⟨b, off + k, none⟩) (l.length - k) (cap - k)) (l.drop k) := by
  obtain ⟨a, c, he, h1, h2, h3⟩ := h
  injection he with e1 e2 e3
  subst e1 e3
  refine ⟨_, _, by rw [List.length_drop], by rw [List.length_drop]; omega, by unfold maxLen at *; omega, fun hp => ?_⟩
  obtain ⟨b', off', e, hc⟩ := h3 (by omega)
  injection e with e
  injection e with e1 e2 e3
  subst e1 e2
  refine ⟨b, off + k, rfl, fun j hj => ?_⟩
  rw [List.length_drop] at hj
  have := hc (k + j) (by omega)
  rw [← Nat.add_assoc] at this
  rw [this]
  simp

set_option maxRecDepth 1000000 in
set_option maxHeartbeats 4000000 in
theorem ckTakeC : CkTakeC := fun w v l h ho hR => by
  have hlen := h.len
  have HL := Lib.hid h
  obtain ⟨a, cap, rfl, hcap, hcm, hcell⟩ := h
  by_cases h4 : l.length < 4
  · have d1 : decide ((l.length : Int) < 4) = true := decide_eq_true (by omega)
    clear hcell
    go_enter Try.func19, Try.ntmps19
    go_wp2_with fail
    refine (New_ans nameCkTake 2 (by decide) _).mono ?_
    rintro e w2 ⟨E, rfl, hc, hb2⟩
    have HC := Lib.hid hc
    have HB := Lib.hid hb2
    clear hc hb2
    go_wp2_with fail
    go_ret2
    exact ⟨HB.out, .inl ⟨h4, E, rfl, HC.out⟩⟩
  · obtain ⟨b, off, rfl, -⟩ := hcell (by omega)
    have d1 : decide ((l.length : Int) < 4) = false := decide_eq_false (by omega)
    have hcb : cap ≤ 9223372036854775807 := hcm
    have HT := Lib.hid (HL.out.take (l.length - 4) (by omega))
    have HD := Lib.hid (listAt_drop HL.out (l.length - 4) (by omega))
    have hdl : (l.drop (l.length - 4)).length = 4 := by rw [List.length_drop]; omega
    have htl : (l.take (l.length - 4)).length = l.length - 4 := by rw [List.length_take]; omega
    have HOT : Hid (Octets (l.take (l.length - 4))) := Lib.hid fun x hx => ho x (List.mem_of_mem_take hx)
    have HOD : Hid (Octets (l.drop (l.length - 4))) := Lib.hid fun x hx => ho x (List.mem_of_mem_drop hx)
    have HW : Hid (WholeS l ↔ l.drop (l.length - 4) = le4 (crcSum (l.take (l.length - 4)))) := Lib.hid (by
      unfold WholeS
      constructor
      · intro h
        have h2 : l.take (l.length - 4) ++ le4 (crcSum (l.take (l.length - 4))) = l.take (l.length - 4) ++ l.drop (l.length - 4) := h.trans (List.take_append_drop ..).symm
        exact (List.append_cancel_left h2).symm
      · intro h
        rw [← h, List.take_append_drop])
    have h4' : 4 ≤ l.length := by omega
    have hln : l.length - (l.length - 4) = 4 := by omega
    rw [hln] at HD
    generalize l.drop (l.length - 4) = D at *
    generalize l.take (l.length - 4) = T at *
    have hsub : (l.length : Int) - 4 = ((l.length - 4 : Nat) : Int) := by omega
    have hmn : l.length - 4 + 4 = l.length := by omega
    generalize hm : l.length - 4 = m at *
    have hcs : (cap : Int) - (m : Int) = ((cap - m : Nat) : Int) := by omega
    have hws : IntKind.i64.wrap (m : Int) = (m : Int) := IntWalk.i64_in _ (by omega)
    have hi0 : (0 : Int) ≤ (m : Int) := by omega
    have hi1 : (m : Int) ≤ (cap : Int) := by omega
    have hi2 : (m : Int) ≤ (l.length : Int) := by omega
    have HMN := Lib.hid hmn
    have HM := Lib.hid hm
    clear hcell ho hmn hm h4
    go_enter Try.func19, Try.ntmps19
    go_upto_region 3 with fail
    go_quiet (fail)
    obtain ⟨W, hW⟩ : ∃ W, W = w.drewN nq := ⟨_, rfl⟩
    have hb0 : Below w.heap.size w W := by rw [hW]; exact below_draws (Below.refl _ _) nq
    have HB0 := Lib.hid hb0
    rw [← hW]
    clear hW
    have HTW := Lib.hid (HT.out.mono hb0)
    have HDW := Lib.hid (HD.out.mono hb0)
    have HB1 := Lib.hid (hb0.alloc hb0.size (.cells #[.slice (some ⟨b, off, none⟩) m cap] 22))
    have HS := Lib.hid (ckSum_same _ [T] (mat_one HTW.out) (by intro r hr; simp at hr; rw [hr]; exact HOT.out))
    rw [show [T].flatten = T by simp] at HS
    have hn := crcSum_lt T
    have HLD : Hid (∀ V : World, Calls Try.prog 23 #[.int .u32 ((crcSum T : Nat) : Int)] V fun e w' => ∃ v', e = .returned v' ∧ w'.ownsRow V.heap.size 5 1 v' 4 ((le4 (crcSum T)).map byteV) ∧ Below V.heap.size V w') := Lib.hid fun V => ckLaid_any _ hn
    have HOL : Hid (Octets (le4 (crcSum T))) := Lib.hid (le4_octets _)
    generalize crcSum T = n at *
    clear hb0
    go_wp2_with fail
    refine HS.out.mono ?_
    rintro e w1 ⟨rfl, rfl⟩
    go_wp2_with fail
    refine (HLD.out _).mono ?_
    rintro e w2 ⟨v2, rfl, ho2, hb2⟩
    have HB2 := Lib.hid (HB1.out.trans (hb2.mono HB1.out.size))
    have HL2 := Lib.hid (ListAt.of_owns (f := byteV) (l := le4 n) ho2)
    have HD2 := Lib.hid (HD.out.mono HB2.out)
    have HT2 := Lib.hid (HT.out.mono HB2.out)
    clear ho2 hb2
    have HEQ := Lib.hid (ckEqual_any _ _ _ _ HD2.out HL2.out HOD.out HOL.out)
    go_wp2_with fail
    refine HEQ.out.mono ?_
    rintro e w3 ⟨rfl, rfl⟩
    by_cases hw : D = le4 n
    · rw [decide_eq_true hw]
      have HCL := Lib.hid (ckClone_any _ _ HT2.out (by omega))
      have HWT := Lib.hid (HW.out.2 hw)
      clear hw
      go_wp2_with fail
      refine HCL.out.mono ?_
      rintro e w4 ⟨v4, rfl, ho4, hb4⟩
      have HO4 := Lib.hid (ownsRow_base ho4 HB2.out.size)
      have HB4 := Lib.hid (HB2.out.trans (hb4.mono HB2.out.size))
      clear ho4 hb4
      go_wp2_with fail
      go_ret2
      refine ⟨HB4.out, .inr (.inr ⟨h4', HWT.out, _, rfl, ?_⟩)⟩
      have h := HO4.out
      rw [htl] at h
      exact h
    · rw [decide_eq_false hw]
      have HWF : Hid (¬ WholeS l) := Lib.hid fun h => hw (HW.out.1 h)
      clear hw
      go_wp2_with fail
      refine (New_ans nameCkTake 6 (by decide) _).mono ?_
      rintro e w4 ⟨E, rfl, hc, hb4⟩
      have HC := Lib.hid hc
      have HB4 := Lib.hid (HB2.out.trans (hb4.mono HB2.out.size))
      clear hc hb4
      go_wp2_with fail
      go_ret2
      exact ⟨HB4.out, .inr (.inl ⟨h4', HWF.out, E, rfl, HC.out⟩)⟩
end Go.Proofs.Ytmihpbdgilmdiaa
