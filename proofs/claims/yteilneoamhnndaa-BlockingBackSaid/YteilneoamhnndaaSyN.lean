/- Split's answer is a list of rows of the call's own (MatFresh). -/
import Derived.Test.YteilneoamhnndaaSyD
import Derived.Test.YteilneoamhnndaaFresh
namespace Go.Proofs.Yteilneoamhnndaa
open Go.RowKit Go.Extern.Stop Go.Stop Go.Extern

set_option maxRecDepth 1000000 in
set_option maxHeartbeats 4000000 in
theorem Split_new {w : World} (v : Value) (P : List Nat) (m : Nat) (h : ListAt byteV w v P) (h1 : 1 ≤ m) (h2 : m ≤ 64) (hP : P.length ≤ 4194304) :
    Calls Try.prog 16 #[v, .int .i64 (m : Int)] w fun e w' => ∃ v', e = .returned (.tuple #[v', .nilIface]) ∧ MatFresh byteV 5 w.heap.size 22 w' v' (splitTo P m (pieces P m)) ∧ Below w.heap.size w w' := by
  obtain ⟨i0, hi0, hz0, hz1, hz2⟩ := info_parts info_sym
  obtain ⟨j0, hj0, jz0, jz1, jz2⟩ := info_parts info_u8
  have HM := Lib.hid (MatAt.nil byteV w)
  have HK := Lib.hid (checkS_ok (L := []) h1 h2 (fun r hr => by simp at hr))
  have HV := Lib.hid h
  obtain ⟨a, cap, rfl, -, -, -⟩ := h
  go_enter Try.func16, Try.ntmps16
  go_wp2_with fail
  refine (wrong_any _ [] (m : Int) HM.out (by omega)).mono ?_
  rintro e w1 ⟨rfl, rfl⟩
  rw [HK.out]
  go_wp2_with fail
  go_loopw [0, 7] (fun pv o wr => ∃ k : Nat, k ≤ pieces P m ∧ ListAt byteV w pv (P.drop (k * m)) ∧ MatFresh byteV 5 w.heap.size 22 wr o (splitTo P m k) ∧ Below w.heap.size w wr) (fun pv _ _ => match pv with | .slice _ n _ => n | _ => 0)
  case atStart => exact ⟨0, Nat.zero_le _, by rw [Nat.zero_mul]; exact HV.out, MatFresh.empty w, Below.refl _ _⟩
  case round =>
    obtain ⟨k, hk, hpv, ⟨vs, hown, hel, hfr⟩, hbel⟩ := hrel
    have HFR := Lib.hid hfr
    have hsz := hbel.size
    have HPV := Lib.hid hpv
    have hrl : (P.drop (k * m)).length = P.length - k * m := List.length_drop
    obtain ⟨ap, cp, rfl, hcp, hcm, hcell⟩ := hpv.bytes _ rfl
    by_cases hlt : k * m < P.length
    · obtain ⟨b, off, rfl, hcc⟩ := hcell (by omega)
      have HCC := Lib.hid hcc
      have HCUT := Lib.hid (fun c hc => HPV.out.cutAt c hc)
      have HPS := Lib.hid (piece_splice P m k)
      have hkl : k < pieces P m := (pieces_lt h1).1 hlt
      obtain ⟨cs, hcs⟩ : ∃ cs, cs = ((P.drop (k * m)).take m).map byteV := ⟨_, rfl⟩
      have hcl : cs.length = min m (P.length - k * m) := by rw [hcs]; simp
      rw [← hcs] at HPS
      have HCV : Hid (∀ j u, cs[j]? = some u → w.cell? ⟨b, off + j, none⟩ = some u) := Lib.hid fun j u hu => by
        have hj : j < cs.length := (List.getElem?_eq_some_iff.1 hu).1
        rw [hcc j (by omega)]
        rw [hcs] at hu
        have hj2 : k * m + j < P.length := by omega
        simp [show j < m by omega, byteV, hj2] at hu
        simp [List.getD_eq_getElem?_getD, hj2, hu]
      have HC1 : Hid (∀ u ∈ cs, u.oneCell' = true) := Lib.hid fun u hu => by
        rw [hcs] at hu
        obtain ⟨y, _, rfl⟩ := List.mem_map.1 hu; rfl
      have HNX : Hid ((P.drop (k * m)).drop cs.length = P.drop ((k + 1) * m)) := Lib.hid (by
        rw [List.drop_drop, Nat.succ_mul, hcl]
        by_cases hm : m ≤ P.length - k * m
        · rw [Nat.min_eq_left hm]
        · rw [Nat.min_eq_right (by omega), List.drop_of_length_le (by omega), List.drop_of_length_le (by omega)])
      have HO := Lib.hid hown
      rw [splitTo_length] at HO
      have HEL := Lib.hid hel
      have HB := Lib.hid hbel
      have hkm : k ≤ P.length := by
        have := Nat.le_mul_of_pos_right k h1
        omega
      rw [hrl] at HPV hcp HCUT ⊢
      generalize hR : P.length - k * m = R at *
      have hR0 : 0 < R := by omega
      have hRI : (0 : Int) < (R : Int) := by omega
      clear hcs hcc hown hel hbel hcell hpv hrl hfr
      have hcR : cs.length ≤ R := by omega
      have hcM : cs.length ≤ m := by omega
      have hc1 : 1 ≤ cs.length := by omega
      have hcRI : (cs.length : Int) ≤ (R : Int) := by omega
      have hRcI : (R : Int) ≤ (cp : Int) := by omega
      have HCL : Hid (cs.length = Nat.min R m) := Lib.hid (by rw [hcl]; exact Nat.min_comm m R)
      have HNEXT : Hid (ListAt byteV w (.slice (if cp = cs.length then some ⟨b, off, none⟩ else some ⟨b, off + cs.length, none⟩) (R - cs.length) (cp - cs.length)) (P.drop ((k + 1) * m))) := Lib.hid (by
        have h := HCUT.out cs.length hcR
        rw [HNX.out] at h
        by_cases e : cp = cs.length
        · rw [if_pos e]; exact h.addr0 (by omega)
        · rw [if_neg e]; exact h)
      clear hcl hR HCUT HNX HPV HCC
      go_wp2_with (first
        | (at_make; refine wpList_make_full _ rfl _ _ 22 rfl w.heap.size 5 j0 (.int .u8 0) 1 Try.underlying22 hj0 jz0 jz1 .i64 .i64 _ _ m rfl rfl rfl rfl (by rw [jz2]; omega) (by unfold maxLen; omega) hsz ?_; intro w0 hown0 hgrow0; have hbw := Lib.hid ((Below.refl wr.heap.size wr).grown hgrow0 (Nat.le_refl _) (fun k hk => by cases hk)); have ho1 : Hid (w0.ownsRow w.heap.size 5 1 (.slice (some ⟨wr.heap.size, 0, none⟩) m m) m (List.replicate m (byteV 0))) := Lib.hid (by rw [Nat.mul_one] at hown0; exact toList_madeCells_one (.int .u8 0) m ▸ hown0); clear hown0 hgrow0)
        | ((with_reducible show wpList _ _ _ (⟨some 23, _, _, _, _, _⟩ :: _) _ _); refine wpList_copy_splice rfl (.tmp 21) (.tmp 22) 22 22 rfl 5 Try.underlying22 (by rw [hj0]; exact congrArg some jz1) (some ⟨wr.heap.size, 0, none⟩) (some ⟨b, off, none⟩) m m R cp rfl rfl wr.heap.size 0 (List.replicate m (byteV 0)) 5 (own_full ho1.out).2.2 cs HCL.out (fun _ => ⟨rfl, _, rfl, fun j u hu => by
            have h3 := HCV.out j u hu
            rw [Go.WideShapes.add_plain, (HB.out.trans (hbw.out.mono hsz)).cell (p := ⟨b, off + j, none⟩) (World.block_lt_of_cell? w _ h3), h3]⟩) (by rw [List.length_replicate, Nat.zero_add]; exact hcM) HC1.out wr.heap.size wr hbw.out (Nat.le_refl _) ?_; intro w2 hg2 hb2; have HG2 := hg2; have HB2 := Lib.hid hb2; clear hg2 hb2)
        | (at_builtin; refine wpList_append_own _ rfl (.tmp 25) (.tmp 27) 46 rfl w.heap.size 22 i0 (.slice none 0 0) 1 24 Try.underlying46 hi0 hz0 hz1 hz2 rfl (by decide) u7 k vs rfl ((owns_kept HO.out HB2.out).alloc _) ⟨w2.heap.size, 0, none⟩ 1 1 [.slice (some ⟨wr.heap.size, 0, none⟩) m m] rfl rfl (cell_one_new _ _ _) (fun x hx => by simp at hx; subst hx; rfl) (by unfold maxLen; omega) (by omega) (by have := HB2.out.size; simp; omega) ?_; intro v3 w3 hown1 hgrow1 _; have hb3 := Lib.hid (((HB.out.trans (HB2.out.mono hsz)).alloc (Nat.le_trans hsz HB2.out.size) _).grown hgrow1 (by have := HB2.out.size; simp; omega) (fun k hk => (HO.out.lt k hk).1)); have ho3 : Hid (MatFresh byteV 5 w.heap.size 22 w3 v3 (splitTo P m k ++ [pieceAt P m k])) := Lib.hid (MatFresh.app HFR.out (own_ge hsz) (by decide) (by rw [splitTo_length]; exact owns_kept HO.out HB2.out) (fun i => (HEL.out i).mono HB2.out) (ElAt.own (f := byteV) (own_of_heap (Nat.le_refl wr.heap.size) (by rw [List.length_map, pieceAt_length]) (by unfold maxLen; omega) (by have h := HG2.out; rw [HPS.out] at h; exact h))) (by rw [splitTo_length]; exact hown1) hgrow1); clear hown1 hgrow1))
      go_roundw
      case rel => exact ⟨k + 1, by omega, HNEXT.out, by rw [splitTo_succ]; exact ho3.out, hb3.out⟩
      case measure => show R - cs.length < R; omega
    · have hk' : k = pieces P m := by
        have := mt (pieces_lt (p := P) (k := k) h1).2 hlt
        omega
      have hR0 : P.length - k * m = 0 := by omega
      have HO : Hid (MatFresh byteV 5 w.heap.size 22 wr u7 (splitTo P m (pieces P m))) := Lib.hid (by rw [← hk']; exact ⟨vs, hown, hel, hfr⟩)
      have HB := Lib.hid hbel
      obtain ⟨ao, co, rfl, -, -⟩ := own_open hown
      rw [hrl, hR0]
      clear hown hel hbel hfr hpv HPV hcell hrl hR0 hlt hcp
      go_wp2
      go_ret2
      exact ⟨_, rfl, HO.out, HB.out⟩
end Go.Proofs.Yteilneoamhnndaa
