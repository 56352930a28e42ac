/- The document's In. -/
import Derived.Test.YtpnjjbbpcdeooaaDoorPcH
import Derived.Deep.RegionHeld3
import Derived.Test.YtpnjjbbpcdeooaaDoorSameI
namespace Go.Proofs.YtpnjjbbpcdeooaaDoor
open Go.RowKit Go.Extern.Stop Go.Stop Go.Extern

theorem ListAt.keepB {α : Type} {f : α → Value} {w w' : World} {v : Value} {l : List α} (h : ListAt f w v l) (hk : ∀ b j u, w.cell? ⟨b, j, none⟩ = some u → w'.heap[b]? = w.heap[b]?) : ListAt f w' v l := by
  obtain ⟨a, cap, rfl, hc, hm, h⟩ := h
  refine ⟨a, cap, rfl, hc, hm, fun hp => ?_⟩
  obtain ⟨b, off, rfl, hcell⟩ := h hp
  refine ⟨b, off, rfl, fun j hj => ?_⟩
  have hx := hcell j hj
  rw [World.cell?_of_block (w := w) (a := ⟨b, off + j, none⟩) (hk b _ _ hx)]
  exact hx
/-- All blocks but G are as they were. -/
def KeepG (G : Nat) (w w' : World) : Prop := ∀ b, b < w.heap.size → b ≠ G → w'.heap[b]? = w.heap[b]?
theorem KeepG.cells {G : Nat} {w w' : World} {t : TypeId} (h : KeepG G w w') (hG : w.heap[G]? = some (.cells #[] t (0, 0))) (b j : Nat) (u : Value) (hc : w.cell? ⟨b, j, none⟩ = some u) : w'.heap[b]? = w.heap[b]? := by
  refine h b (World.block_lt_of_cell? w ⟨b, j, none⟩ hc) ?_
  rintro rfl
  unfold World.cell? at hc
  rw [show w.heap[(⟨b, j, none⟩ : Addr).block]? = _ from hG] at hc
  simp at hc

set_option maxRecDepth 1000000 in
set_option maxHeartbeats 4000000 in
theorem rIn_any {w : World} (k s h l p x : Nat) (H : OfP k s h l p) (hk1 : 1 ≤ k) (hk2 : k ≤ 128) (hx : x < l) :
    Calls Tryd.prog 17 #[parV k s h l p, .int .i64 (x : Int)] w fun e w' => ∃ v g, e = .returned v ∧ IsGr ((h + 1) / 2) (k + s) g ∧ ListAt colV w' v (rowsWith (rowsP k s h g) x) ∧ Below w.heap.size w w' := by
  obtain ⟨i0, hi, hz0, hz1, hz2⟩ := info_parts info_int
  obtain ⟨w0, hw0, hb0, hbx⟩ := par_laid w k s h l p
  have HW0 := Lib.hid hw0
  have HB0 := Lib.hid hb0
  have HBX := Lib.hid hbx
  obtain ⟨b1, b2, b3, b4, b5, b6, b7⟩ := H.bounds hk1 hk2
  have HGA : Hid (∀ w, Calls Tryd.prog 12 #[.agg #[.int .i64 (k : Int), .int .i64 (s : Int), .int .i64 (h : Int), .int .i64 (l : Int), .int .i64 (p : Int)]] w fun e w' => ∃ v g, e = .returned v ∧ IsGr ((h + 1) / 2) (k + s) g ∧ MatAt colV w' v (rowsP k s h g) ∧ Below w.heap.size w w') := Lib.hid fun w => rRows_any k s h l p H hk1 hk2
  have hx157 : x ≤ 157 := by omega
  obtain ⟨wa, hwa, hba, hza⟩ : ∃ wa, wa = w0.alloc (.cells #[] 3) ∧ Below w0.heap.size w0 wa ∧ wa.ownsRow w0.heap.size 3 1 (.slice (some ⟨w0.heap.size, 0, none⟩) 0 0) 0 [] := ⟨_, rfl, (Below.refl _ _).alloc (Nat.le_refl _) _, World.ownsRow_made (base := w0.heap.size) (e := 3) (size := 1) w0 #[] 0 (Nat.le_refl _) (by decide) rfl⟩
  have HWA := Lib.hid hwa
  have HBA := Lib.hid hba
  have HZA := Lib.hid hza
  obtain ⟨c0, c1, c2, c3, c4⟩ := (hbx.mono hba).cells
  clear hw0 hb0 hbx H hwa hba hza
  unfold parV parC
  go_enter Tryd.func17, Tryd.ntmps17
  go_upto_region 1 with fail
  rw [← HW0.out]
  go_upto_region 2 with fail
  rw [← HWA.out]
  have HGC : Hid (wa.heap[w0.heap.size]? = some (.cells #[] 3 (0, 0))) := Lib.hid (by rw [HWA.out]; exact heap_alloc_new w0 _)
  have HGL : Hid (w0.heap.size < wa.heap.size) := Lib.hid (by rw [HWA.out]; simp)
  have HB01 : Hid (w.heap.size ≤ w0.heap.size) := Lib.hid HB0.out.size
  generalize w0.heap.size = G at *
  go_wp2_with fail
  refine (HGA.out _).mono ?_
  rintro e w2 ⟨v, g, rfl, hg, hm, hb2⟩
  have HG := Lib.hid hg
  have HM := Lib.hid hm
  have hGs : G < w2.heap.size := Nat.lt_of_lt_of_le HGL.out hb2.size
  have HG2 : Hid (w2.heap[G]? = some (.cells #[] 3 (0, 0))) := Lib.hid ((hb2.block G HGL.out).trans HGC.out)
  have HZ2 := Lib.hid (owns_kept HZA.out hb2)
  have HB2 : Hid (Below G wa w2) := Lib.hid (hb2.mono (Nat.le_of_lt HGL.out))
  obtain ⟨a, cap, rfl, hcap, -, hcell⟩ := hm.opens
  have HLN := Lib.hid (rowsP_length k s h g)
  rw [rowsP_length] at hcap hcell ⊢
  have HC := Lib.hid hcell
  obtain ⟨R, hR⟩ : ∃ R, rowsP k s h g = R := ⟨_, rfl⟩
  rw [hR] at HC HM HLN
  have HRR := Lib.hid hR
  obtain ⟨n, hn⟩ : ∃ n, s + h = n := ⟨_, rfl⟩
  have hn29 : n ≤ 29 := by omega
  rw [hn] at hcap HC HLN ⊢
  clear hg hm hb2 c0 c1 c2 c3 c4 hcell hR hn
  go_wp2_with fail
  go_loopw [5, 7] (fun o i wr => ∃ (q m : Nat), q ≤ n ∧ i = .int .i64 q ∧ (withTo R x q).length = m ∧ wr.ownsRow G 3 1 o m ((withTo R x q).map colV) ∧ (∀ b, o.ownBlock = some b → b = G ∨ w2.heap.size ≤ b) ∧ KeepG G w2 wr ∧ Below G w2 wr) (fun _ i _ => n - (intOf i).toNat)
  case atStart => exact ⟨0, 0, Nat.zero_le _, rfl, rfl, HZ2.out, fun b hb => .inl (by simpa [Value.ownBlock] using hb.symm), fun _ _ _ => rfl, Below.refl _ _⟩
  case round =>
    obtain ⟨q, m, hq, rfl, hm, hown, hob, hkg, hbel⟩ := hrel
    have HO := Lib.hid hown
    have HOB := Lib.hid hob
    have HK := Lib.hid hkg
    have HB := Lib.hid hbel
    have hsz := hbel.size
    have HMM := Lib.hid hm
    have hmq : m ≤ q := by rw [← hm]; exact withTo_len _ _ _
    obtain ⟨ao, co, rfl, -, -⟩ := own_open hown
    clear hown hm hob
    by_cases hlt : q < n
    · obtain ⟨b, off, rfl, hcc⟩ := HC.out (by omega)
      obtain ⟨y, hy, hly⟩ := hcc q hlt
      have hyr := (World.cell?_of_block (w := w2) (a := ⟨b, off + q, none⟩) (hkg.cells HG2.out _ _ _ hy)).trans hy
      have HLY := Lib.hid (hly.keepB (hkg.cells HG2.out)).cols
      obtain ⟨ay, cy, rfl, -⟩ := hly
      clear hcc hy hbel hkg
      by_cases hin : x ∈ R.getD q []
      · have HS : Hid (withTo R x (q + 1) = withTo R x q ++ [q]) := Lib.hid (fr_one (by simpa using hin))
        have HD : Hid (decide ((x : Int) ∈ (R.getD q []).map Int.ofNat) = true) := Lib.hid (decide_eq_true (cols_mem.2 hin))
        clear hin
        go_wp2_with fail
        refine (In_any _ _ (x : Int) HLY.out).mono ?_
        rintro e w3 ⟨rfl, rfl⟩
        rw [HD.out]
        go_wp2_with (at_builtin; refine wpList_append_own_at _ rfl (.tmp 23) (.tmp 25) 24 rfl G 3 i0 (.int .i64 0) 1 8 Tryd.underlying24 hi hz0 hz1 hz2 rfl (by decide) (.slice ao m co) m ((withTo R x q).map colV) rfl (HO.out.alloc _) ⟨wr.heap.size, 0, none⟩ 1 1 [.int .i64 (q : Int)] rfl rfl (cell_one_new _ _ _) (fun x hx => by simp at hx; subst hx; rfl) (by unfold maxLen; omega) (by omega) (by simp; omega) ?_; intro v2 w4 hown1 hgrow1 _ hat; have hb3 := Lib.hid ((HB.out.alloc (by omega) _).grown hgrow1 (by simp; omega) (fun k hk => (HO.out.lt k hk).1)); have ho2 := Lib.hid hown1; have hk2 : Hid (KeepG G w2 w4) := Lib.hid (fun b hb hbG => (hgrow1.block b (by simp; omega) (fun e => by rcases HOB.out b e.symm with h1 | h1 <;> omega)).trans ((Below.heap_alloc _ _ _ (by omega)).trans (HK.out b hb hbG))); have hob2 : Hid (∀ b, v2.ownBlock = some b → b = G ∨ w2.heap.size ≤ b) := Lib.hid (fun b hb => by rcases hat with h1 | h1; exact HOB.out b (h1 ▸ hb); right; rw [h1] at hb; simp at hb; omega); clear hown1 hgrow1 hat)
        go_roundw
        case rel => exact ⟨q + 1, m + 1, by omega, by go_num, by rw [HS.out, List.length_append, HMM.out]; rfl, by rw [HS.out, List.map_append]; exact ho2.out, hob2.out, hk2.out, hb3.out⟩
        case measure => simp [intOf]; omega
      · have HS : Hid (withTo R x (q + 1) = withTo R x q) := Lib.hid (fr_none (by simpa using hin))
        have HD : Hid (decide ((x : Int) ∈ (R.getD q []).map Int.ofNat) = false) := Lib.hid (decide_eq_false (fun h => hin (cols_mem.1 h)))
        clear hin
        go_wp2_with fail
        refine (In_any _ _ (x : Int) HLY.out).mono ?_
        rintro e w3 ⟨rfl, rfl⟩
        rw [HD.out]
        go_wp2
        go_roundw
        case rel => exact ⟨q + 1, m, by omega, by go_num, by rw [HS.out]; exact HMM.out, by rw [HS.out]; exact HO.out, HOB.out, HK.out, HB.out⟩
        case measure => simp [intOf]; omega
    · obtain rfl : q = n := by omega
      have HE : Hid (ListAt colV wr (.slice ao m co) (rowsWith (rowsP k s h g) x)) := Lib.hid (by
        rw [HRR.out, ← withTo_all, HLN.out]
        have := HO.out
        rw [← HMM.out] at this ⊢
        exact ListAt.of_owns this)
      have HFIN : Hid (Below w.heap.size w wr) := Lib.hid ((HB0.out.trans (HBA.out.mono HB01.out)).trans ((HB2.out.mono HB01.out).trans (HB.out.mono HB01.out)))
      clear hbel hkg
      go_wp2
      go_ret
      exact ⟨_, g, rfl, HG.out, HE.out, HFIN.out⟩
end Go.Proofs.YtpnjjbbpcdeooaaDoor
