/- Package geyserref03: Rank, Plain, Picks, Spans. -/
import Derived.Test.YtpnjjbbpcdeooaaMxRefD
namespace Go.Proofs.Ytpnjjbbpcdeooaa
open Go.RowKit Go.Extern.Stop Go.Stop Go.Extern

theorem MatOk.len {L : List (List Nat)} {n : Nat} (h : MatOk L n) (k : Nat) : (L.getD k []).length ≤ 100000 := by
  by_cases hk : k < L.length
  · rw [(h.whole _ (getD_mem' hk)).1]
    have := kOf_le h.cols
    omega
  · rw [List.getD_eq_getElem?_getD, List.getElem?_eq_none (by omega)]; simp
theorem MatOk.take {L : List (List Nat)} {n : Nat} (h : MatOk L n) (k : Nat) : MatOk (L.take k) n := h.sub (fun _ hr => List.mem_of_mem_take hr) (by have := h.rows; rw [List.length_take]; omega)
theorem allB_rows (L : List (List Nat)) (n : Nat) : RowsLen (allB L n) n := fun k hk => by
  unfold allB at hk ⊢
  rw [List.length_map] at hk
  simp [hk, truthsB_length]
theorem allB_length (L : List (List Nat)) (n : Nat) : (allB L n).length = L.length := by simp [allB]

set_option maxRecDepth 1000000 in
set_option maxHeartbeats 1000000 in
theorem refRank_any {w : World} (v : Value) (L : List (List Nat)) (n : Nat) (h : MatAt wordV w v L) (hm : MatOk L n) :
    Calls Try.prog 10 #[v, .int .i64 (n : Int)] w fun e w' => e = .returned (.int .i64 ((rk (vecs L) : Nat) : Int)) ∧ Below w.heap.size w w' := by
  have HM := Lib.hid h
  have HW := Lib.hid hm.words
  have HLN := Lib.hid hm.len
  have HV := Lib.hid (vecsB_all hm)
  have hn := hm.cols
  have hl : L.length ≤ 100000 := by have := hm.rows; omega
  obtain ⟨a, cap, rfl, -, -, -⟩ := h.opens
  clear h hm
  go_enter Try.func10, Try.ntmps10
  go_wp2_with fail
  refine (All_any _ L n HM.out HW.out HLN.out hn hl).mono ?_
  rintro e w1 ⟨v1, rfl, hv1, hb1⟩
  have HM1 := Lib.hid hv1
  have HB1 := Lib.hid hb1
  have hsz1 := hb1.size
  obtain ⟨a1, c1, rfl, -, -, -⟩ := hv1.opens
  clear hv1 hb1
  go_wp2_with fail
  refine (Gauss_any _ (allB L n) n HM1.out (allB_rows L n) hn (by rw [allB_length]; exact hl)).mono ?_
  rintro e w2 ⟨v2, R, rfl, hv2, -, hpf, hsp, -, hb2⟩
  have HR : Hid (R.length = rk (vecs L)) := Lib.hid (by
    have := hpf.rank hsp
    rw [vecsB_length, HV.out] at this
    exact this)
  have HB2 := Lib.hid (HB1.out.trans (hb2.mono hsz1))
  obtain ⟨a2, c2, rfl, -, -, -⟩ := hv2.opens
  clear hv2 hb2 hpf hsp
  go_wp2
  go_ret
  exact ⟨by rw [HR.out]; rfl, HB2.out⟩

/-! ### Plain -/
theorem words_take {R : List (List Bool)} {k : Nat} (h : k < R.length) : (R.take (k + 1)).map wordsB = (R.take k).map wordsB ++ [wordsB (R.getD k [])] := by
  rw [List.take_succ_eq_append_getElem h, List.map_append]
  simp [h]

/-! ### Picks, Spans -/
theorem refRank_pre {w wr : World} {a : Option Addr} {cap : Nat} (L : List (List Nat)) (n k : Nat) (h : MatAt wordV w (.slice a L.length cap) L) (hm : MatOk L n) (hk : k ≤ L.length) (hb : Below w.heap.size w wr) :
    Calls Try.prog 10 #[.slice a k cap, .int .i64 (n : Int)] wr fun e w' => e = .returned (.int .i64 ((rk ((vecs L).take k) : Nat) : Int)) ∧ Below wr.heap.size wr w' := by
  have := refRank_any _ (L.take k) n ((h.take k hk).mono hb) (hm.take k)
  rwa [vecs_take] at this

end Go.Proofs.Ytpnjjbbpcdeooaa
