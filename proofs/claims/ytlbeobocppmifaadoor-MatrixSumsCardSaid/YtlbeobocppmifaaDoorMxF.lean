/- Package matrix: Rank, Picks, Spans, Plain. -/
import Derived.Test.YtlbeobocppmifaaDoorMxE
namespace Go.Proofs.YtlbeobocppmifaaDoor
open Go.RowKit Go.Extern.Stop Go.Stop Go.Extern

abbrev nameRank : ByteArray := ⟨#[109, 97, 116, 114, 105, 120, 46, 82, 97, 110, 107]⟩
abbrev namePicks : ByteArray := ⟨#[109, 97, 116, 114, 105, 120, 46, 80, 105, 99, 107, 115]⟩
abbrev nameSpans : ByteArray := ⟨#[109, 97, 116, 114, 105, 120, 46, 83, 112, 97, 110, 115]⟩
abbrev namePlain : ByteArray := ⟨#[109, 97, 116, 114, 105, 120, 46, 80, 108, 97, 105, 110]⟩

theorem ErrAns.nil {c : ByteArray} {w : World} {E : Value} (h : ErrAns 0 c w E) : E = .nilIface := by
  rcases h with ⟨_, h⟩ | ⟨h, _⟩
  · exact h
  · exact absurd rfl h
theorem ErrAns.chain {k : Int} {c : ByteArray} {w : World} {E : Value} (h : ErrAns k c w E) (hk : k ≠ 0) : ∃ ls, Chain w k (c :: ls) E := by
  rcases h with ⟨h, _⟩ | ⟨_, h⟩
  · exact absurd h hk
  · exact h

def I64 (n : Int) : Prop := -9223372036854775808 ≤ n ∧ n ≤ 9223372036854775807

set_option maxRecDepth 1000000 in
theorem Rank_bad {w : World} (v : Value) (L : List (List Nat)) (n : Int) (h : MatAt wordV w v L) (hw : ∀ r ∈ L, Word r) (hn : I64 n) (hk : checkM L n ≠ 0) :
    Calls Tryd.prog 15 #[v, .int .i64 n] w fun e w' => ∃ E, e = .returned (.tuple #[.int .i64 0, E]) ∧ ErrAns (checkM L n) nameRank w' E ∧ Below w.heap.size w w' := by
  have HM := Lib.hid h
  have HW := Lib.hid hw
  have HN := Lib.hid hn
  have HK := Lib.hid hk
  obtain ⟨a, cap, rfl, -, -, -⟩ := h.opens
  clear h hw hn hk
  generalize hkk : checkM L n = k at *
  have HKK := Lib.hid hkk
  clear hkk
  go_enter Tryd.func15, Tryd.ntmps15
  go_wp2_with fail
  refine (MCheck_any _ L n HM.out HW.out HN.out).mono ?_
  rintro e w1 ⟨E1, rfl, hE1, hb1⟩
  rw [HKK.out] at hE1
  obtain ⟨ls, hc1⟩ := hE1.chain HK.out
  have HC1 := Lib.hid hc1
  have HB1 := Lib.hid hb1
  have hsz1 := hb1.size
  obtain ⟨u, v, rfl⟩ := hc1.iface
  clear hc1 hE1 hb1
  go_wp2_with fail
  refine (Wrap_chain nameRank k _ _ _ HC1.out).mono ?_
  rintro e w2 ⟨E2, rfl, hc2, hb2⟩
  have HC2 := Lib.hid hc2
  have HB2 := Lib.hid (HB1.out.trans (hb2.mono hsz1))
  obtain ⟨u2, v2, rfl⟩ := hc2.iface
  clear hc2 hb2
  go_wp2
  go_ret2
  exact ⟨_, rfl, .inr ⟨HK.out, _, HC2.out⟩, HB2.out⟩

set_option maxRecDepth 1000000 in
theorem Rank_ok {w : World} (v : Value) (L : List (List Nat)) (n : Nat) (h : MatAt wordV w v L) (hm : MatOk L n) (hT : Tab w) :
    Calls Tryd.prog 15 #[v, .int .i64 (n : Int)] w fun e w' => e = .returned (.tuple #[.int .i64 ((rk (vecs L) : Nat) : Int), .nilIface]) ∧ Below w.heap.size w w' := by
  have HM := Lib.hid h
  have HOK := Lib.hid hm
  have HT := Lib.hid hT
  have HN : Hid (I64 (n : Int)) := Lib.hid (by have := hm.cols; unfold I64; omega)
  have HCH := Lib.hid hm.check
  have HPL : Hid ((picksTo (vecs L) L.length).length = rk (vecs L)) := Lib.hid (by
    have := picksTo_length (vecs L) (vecs L).length (Nat.le_refl _)
    rw [List.take_length, vecs_length] at this
    exact this)
  obtain ⟨a, cap, rfl, -, -, -⟩ := h.opens
  clear h hm hT
  generalize rk (vecs L) = m at *
  go_enter Tryd.func15, Tryd.ntmps15
  go_wp2_with fail
  refine (MCheck_any _ L (n : Int) HM.out HOK.out.words HN.out).mono ?_
  rintro e w1 ⟨E1, rfl, hE1, hb1⟩
  rw [HCH.out] at hE1
  obtain rfl := hE1.nil
  have HB1 := Lib.hid hb1
  have hsz1 := hb1.size
  clear hE1 hb1
  go_wp2_with fail
  refine (gather_any _ L n (HM.out.mono HB1.out) HOK.out (HT.out.mono HB1.out)).mono ?_
  rintro e w2 ⟨pv, ad, ws, rfl, -, -, -, hp, hb2⟩
  rw [HPL.out] at hp
  have HB2 := Lib.hid (HB1.out.trans (hb2.mono hsz1))
  obtain ⟨pa, pc, rfl, -, -⟩ := own_open hp
  clear hp hb2
  go_wp2
  go_ret2
  exact ⟨rfl, HB2.out⟩

set_option maxRecDepth 1000000 in
theorem Picks_bad {w : World} (v : Value) (L : List (List Nat)) (n : Int) (h : MatAt wordV w v L) (hw : ∀ r ∈ L, Word r) (hn : I64 n) (hk : checkM L n ≠ 0) :
    Calls Tryd.prog 16 #[v, .int .i64 n] w fun e w' => ∃ E, e = .returned (.tuple #[.slice none 0 0, E]) ∧ ErrAns (checkM L n) namePicks w' E ∧ Below w.heap.size w w' := by
  have HM := Lib.hid h
  have HW := Lib.hid hw
  have HN := Lib.hid hn
  have HK := Lib.hid hk
  obtain ⟨a, cap, rfl, -, -, -⟩ := h.opens
  clear h hw hn hk
  generalize hkk : checkM L n = k at *
  have HKK := Lib.hid hkk
  clear hkk
  go_enter Tryd.func16, Tryd.ntmps16
  go_wp2_with fail
  refine (MCheck_any _ L n HM.out HW.out HN.out).mono ?_
  rintro e w1 ⟨E1, rfl, hE1, hb1⟩
  rw [HKK.out] at hE1
  obtain ⟨ls, hc1⟩ := hE1.chain HK.out
  have HC1 := Lib.hid hc1
  have HB1 := Lib.hid hb1
  have hsz1 := hb1.size
  obtain ⟨u, v, rfl⟩ := hc1.iface
  clear hc1 hE1 hb1
  go_wp2_with fail
  refine (Wrap_chain namePicks k _ _ _ HC1.out).mono ?_
  rintro e w2 ⟨E2, rfl, hc2, hb2⟩
  have HC2 := Lib.hid hc2
  have HB2 := Lib.hid (HB1.out.trans (hb2.mono hsz1))
  obtain ⟨u2, v2, rfl⟩ := hc2.iface
  clear hc2 hb2
  go_wp2
  go_ret2
  exact ⟨_, rfl, .inr ⟨HK.out, _, HC2.out⟩, HB2.out⟩

set_option maxRecDepth 1000000 in
theorem Picks_ok {w : World} (v : Value) (L : List (List Nat)) (n : Nat) (h : MatAt wordV w v L) (hm : MatOk L n) (hT : Tab w) :
    Calls Tryd.prog 16 #[v, .int .i64 (n : Int)] w fun e w' => ∃ pv, e = .returned (.tuple #[pv, .nilIface]) ∧ ListAt colV w' pv (picksTo (vecs L) L.length) ∧ Below w.heap.size w w' := by
  have HM := Lib.hid h
  have HOK := Lib.hid hm
  have HT := Lib.hid hT
  have HN : Hid (I64 (n : Int)) := Lib.hid (by have := hm.cols; unfold I64; omega)
  have HCH := Lib.hid hm.check
  obtain ⟨a, cap, rfl, -, -, -⟩ := h.opens
  clear h hm hT
  go_enter Tryd.func16, Tryd.ntmps16
  go_wp2_with fail
  refine (MCheck_any _ L (n : Int) HM.out HOK.out.words HN.out).mono ?_
  rintro e w1 ⟨E1, rfl, hE1, hb1⟩
  rw [HCH.out] at hE1
  obtain rfl := hE1.nil
  have HB1 := Lib.hid hb1
  have hsz1 := hb1.size
  clear hE1 hb1
  go_wp2_with fail
  refine (gather_any _ L n (HM.out.mono HB1.out) HOK.out (HT.out.mono HB1.out)).mono ?_
  rintro e w2 ⟨pv, ad, ws, rfl, -, -, -, hp, hb2⟩
  have HB2 := Lib.hid (HB1.out.trans (hb2.mono hsz1))
  have HP : Hid (ListAt colV w2 pv (picksTo (vecs L) L.length)) := Lib.hid (ListAt.of_owns hp)
  obtain ⟨pa, pc, rfl, -, -⟩ := own_open hp
  clear hp hb2
  go_wp2
  go_ret2
  exact ⟨_, rfl, HP.out, HB2.out⟩

/-! ### Spans -/
/-- What Spans says of rows and a row. -/
def spansK (L : List (List Nat)) (n : Int) (r : List Nat) : Int := if checkM L n ≠ 0 then checkM L n else checkM [r] n

theorem mat_one {w : World} {x : Value} {r : List Nat} (h : ListAt wordV w x r) : MatAt wordV (w.alloc (.cells #[x] 37)) (.slice (some ⟨w.heap.size, 0, none⟩) 1 1) [r] := by
  have hb : Below w.heap.size w (w.alloc (.cells #[x] 37)) := (Below.refl _ _).alloc (Nat.le_refl _) _
  refine ⟨[x], ⟨_, 1, rfl, Nat.le_refl _, by decide, fun _ => ⟨_, 0, rfl, fun j hj => ?_⟩⟩, rfl, fun i => ?_⟩
  · have : j = 0 := by simp at hj; omega
    subst this
    simp
  · cases i with
    | zero => exact h.mono hb
    | succ i => simpa using ListAt.nil wordV _

set_option maxRecDepth 1000000 in
set_option maxHeartbeats 1000000 in
theorem Spans_bad {w : World} (v x : Value) (L : List (List Nat)) (r : List Nat) (n : Int) (h : MatAt wordV w v L) (hw : ∀ r ∈ L, Word r) (hx : ListAt wordV w x r) (hr : Word r) (hn : I64 n) (hk : spansK L n r ≠ 0) :
    Calls Tryd.prog 20 #[v, .int .i64 n, x] w fun e w' => ∃ E, e = .returned (.tuple #[.bool false, E]) ∧ ErrAns (spansK L n r) nameSpans w' E ∧ Below w.heap.size w w' := by
  have HM := Lib.hid h
  have HW := Lib.hid hw
  have HN := Lib.hid hn
  have HX := Lib.hid hx
  have HR := Lib.hid hr
  obtain ⟨a, cap, rfl, -, -, -⟩ := h.opens
  obtain ⟨ax, cx, rfl, -, -, -⟩ := hx
  by_cases h0 : checkM L n = 0
  · have hk2 : spansK L n r = checkM [r] n := by unfold spansK; rw [if_neg (by rw [h0]; simp)]
    have H0 := Lib.hid h0
    rw [hk2] at hk ⊢
    have HK := Lib.hid hk
    clear h hw hn hr hk hk2 h0
    generalize hkk : checkM [r] n = k at *
    have HKK := Lib.hid hkk
    clear hkk
    go_enter Tryd.func20, Tryd.ntmps20
    go_wp2_with fail
    refine (MCheck_any _ L n HM.out HW.out HN.out).mono ?_
    rintro e w1 ⟨E1, rfl, hE1, hb1⟩
    rw [H0.out] at hE1
    obtain rfl := hE1.nil
    have HB1 := Lib.hid hb1
    have hsz1 := hb1.size
    have HM1 := Lib.hid (mat_one (HX.out.mono hb1))
    have HBA := Lib.hid (hb1.alloc hsz1 (.cells #[.slice ax r.length cx] 37))
    clear hE1 hb1
    go_wp2_with fail
    refine (MCheck_any _ [r] n HM1.out (fun s hs => by simp at hs; subst hs; exact HR.out) HN.out).mono ?_
    rintro e w2 ⟨E2, rfl, hE2, hb2⟩
    rw [HKK.out] at hE2
    obtain ⟨ls, hc2⟩ := hE2.chain HK.out
    have HC2 := Lib.hid hc2
    have HB2 := Lib.hid (HBA.out.trans (hb2.mono HBA.out.size))
    have hsz2 := HB2.out.size
    obtain ⟨u, v, rfl⟩ := hc2.iface
    clear hc2 hE2 hb2
    go_wp2_with fail
    refine (Wrap_chain nameSpans k _ _ _ HC2.out).mono ?_
    rintro e w3 ⟨E3, rfl, hc3, hb3⟩
    have HC3 := Lib.hid hc3
    have HB3 := Lib.hid (HB2.out.trans (hb3.mono hsz2))
    obtain ⟨u2, v2, rfl⟩ := hc3.iface
    clear hc3 hb3
    go_wp2
    go_ret2
    exact ⟨_, rfl, .inr ⟨HK.out, _, HC3.out⟩, HB3.out⟩
  · have hk2 : spansK L n r = checkM L n := by unfold spansK; rw [if_pos h0]
    rw [hk2]
    have HK := Lib.hid h0
    clear h hw hn hr hk hk2 h0
    generalize hkk : checkM L n = k at *
    have HKK := Lib.hid hkk
    clear hkk
    go_enter Tryd.func20, Tryd.ntmps20
    go_wp2_with fail
    refine (MCheck_any _ L n HM.out HW.out HN.out).mono ?_
    rintro e w1 ⟨E1, rfl, hE1, hb1⟩
    rw [HKK.out] at hE1
    obtain ⟨ls, hc1⟩ := hE1.chain HK.out
    have HC1 := Lib.hid hc1
    have HB1 := Lib.hid hb1
    have hsz1 := hb1.size
    obtain ⟨u, v, rfl⟩ := hc1.iface
    clear hc1 hE1 hb1
    go_wp2_with fail
    refine (Wrap_chain nameSpans k _ _ _ HC1.out).mono ?_
    rintro e w3 ⟨E3, rfl, hc3, hb3⟩
    have HC3 := Lib.hid hc3
    have HB3 := Lib.hid (HB1.out.trans (hb3.mono hsz1))
    obtain ⟨u2, v2, rfl⟩ := hc3.iface
    clear hc3 hb3
    go_wp2
    go_ret2
    exact ⟨_, rfl, .inr ⟨HK.out, _, HC3.out⟩, HB3.out⟩

theorem firstCol_neg {y : List Nat} : (firstCol y < 0 ↔ bitW y = vzero) := by
  rcases firstCol_cases y with ⟨h1, h2⟩ | ⟨c, h1, h2, _⟩
  · rw [h1]; exact ⟨fun _ => h2, fun _ => by decide⟩
  · rw [h1]; exact ⟨fun h => by omega, fun h => absurd h h2.ne⟩

set_option maxRecDepth 1000000 in
set_option maxHeartbeats 1000000 in
theorem Spans_ok {w : World} (v x : Value) (L : List (List Nat)) (r : List Nat) (n : Nat) (h : MatAt wordV w v L) (hm : MatOk L n) (hx : ListAt wordV w x r) (hr : MatOk [r] n) (hT : Tab w) :
    Calls Tryd.prog 20 #[v, .int .i64 (n : Int), x] w fun e w' => ∃ bt, e = .returned (.tuple #[.bool bt, .nilIface]) ∧ (bt = true ↔ Sp (vecs L) (bitW r)) ∧ Below w.heap.size w w' := by
  have HM := Lib.hid h
  have HOK := Lib.hid hm
  have HX := Lib.hid hx
  have HRK := Lib.hid hr
  have HT := Lib.hid hT
  have HN : Hid (I64 (n : Int)) := Lib.hid (by have := hm.cols; unfold I64; omega)
  have HC0 := Lib.hid hm.check
  have HC1 := Lib.hid hr.check
  have hn := hm.cols
  have hrw := hr.words r (by simp)
  have hrh := hr.whole r (by simp)
  have HRW := Lib.hid hrw
  have HRH := Lib.hid hrh
  have HK64 := Lib.hid (kOf_le hn)
  obtain ⟨a, cap, rfl, -, -, -⟩ := h.opens
  obtain ⟨ax, cx, rfl, -, -, -⟩ := hx
  clear h hm hr hT hrw hrh
  go_enter Tryd.func20, Tryd.ntmps20
  go_wp2_with fail
  refine (MCheck_any _ L (n : Int) HM.out HOK.out.words HN.out).mono ?_
  rintro e w1 ⟨E1, rfl, hE1, hb1⟩
  rw [HC0.out] at hE1
  obtain rfl := hE1.nil
  have HB1 := Lib.hid hb1
  have hsz1 := hb1.size
  have HM1 := Lib.hid (mat_one (HX.out.mono hb1))
  have HBA := Lib.hid (hb1.alloc hsz1 (.cells #[.slice ax r.length cx] 37))
  clear hE1 hb1
  go_wp2_with fail
  refine (MCheck_any _ [r] (n : Int) HM1.out HRK.out.words HN.out).mono ?_
  rintro e w2 ⟨E2, rfl, hE2, hb2⟩
  rw [HC1.out] at hE2
  obtain rfl := hE2.nil
  have HB2 := Lib.hid (HBA.out.trans (hb2.mono HBA.out.size))
  have hsz2 := HB2.out.size
  clear hE2 hb2
  go_wp2_with fail
  refine (gather_any _ L n (HM.out.mono HB2.out) HOK.out (HT.out.mono HB2.out)).mono ?_
  rintro e w3 ⟨pv, ad, ws, rfl, hst, hlw, hsp, -, hb3⟩
  have HST := Lib.hid hst
  have HLW := Lib.hid hlw
  have HSP := Lib.hid hsp
  have HB3 := Lib.hid (HB2.out.trans (hb3.mono hsz2))
  have hsz3 := HB3.out.size
  clear hst hlw hsp hb3
  go_wp2_with fail
  refine (rest_any w2.heap.size n (kOf n) w2.heap.size ad ws _ r HST.out HLW.out (HX.out.mono HB3.out) HRW.out HRH.out.1 HRH.out.2 hn rfl (HT.out.mono HB3.out)).mono ?_
  rintro e w4 ⟨v4, y, rfl, hv4, hy, hyc, hb4⟩
  have HYA : Hid (ListAt wordV w4 v4 y) := Lib.hid (ListAt.of_owns hv4)
  have HY := Lib.hid hy
  have HYL := Lib.hid hy.len
  have HB4 := Lib.hid (HB3.out.trans (hb4.mono hsz3))
  have HANS : Hid (bitW y = vzero ↔ Sp (vecs L) (bitW r)) := Lib.hid (by
    constructor
    · intro hz
      have hs := hy.span
      rw [hz] at hs
      exact (gather_in HSP.out hs).1
    · intro hs
      rcases lead_or_zero (bitW y) with hz | ⟨c, hl⟩
      · exact hz
      · exfalso
        have hcn : c < n := by
          apply Nat.lt_of_not_le
          intro hle
          have := hy.low c hle
          rw [hl.1] at this
          cases this
        have hU : uOf ws c = vzero := (HST.out.uz hcn).2 (hyc c hl)
        exact (gather_out HST.out.stair HSP.out hy.span hU hcn hl).1 hs)
  obtain ⟨a4, c4, rfl, -, -⟩ := own_open hv4
  clear hv4 hy hyc hb4
  go_wp2_with fail
  refine (First_any _ y HYA.out HY.out.word (by rw [HYL.out]; have := HK64.out; omega) (HT.out.mono HB4.out)).mono ?_
  rintro e w5 ⟨rfl, rfl⟩
  have HF := Lib.hid (firstCol_neg (y := y))
  generalize firstCol y = f at *
  by_cases hf : f < 0
  · have HP : Hid (Sp (vecs L) (bitW r)) := Lib.hid (HANS.out.1 (HF.out.1 hf))
    go_wp2
    go_ret2
    exact ⟨true, rfl, ⟨fun _ => HP.out, fun _ => rfl⟩, HB4.out⟩
  · have HP : Hid (¬ Sp (vecs L) (bitW r)) := Lib.hid fun hs => hf (HF.out.2 (HANS.out.2 hs))
    go_wp2
    go_ret2
    exact ⟨decide (f < 0), rfl, ⟨fun h => by have := of_decide_eq_true h; omega, fun h => absurd h HP.out⟩, HB4.out⟩

/-! ### Plain -/
/-- Rows of the call's own, each in a block of its own. -/
structure RowsOwn (w : World) (B K : Nat) (rv : Value) (vs : List Value) (M : List (List Nat)) : Prop where
  own : w.ownsRow B 37 1 rv M.length vs
  row : ∀ i, i < M.length → ∃ g cap, vs.getD i nilS = .slice (some ⟨g, 0, none⟩) K cap ∧ w.ownsRow B 46 1 (.slice (some ⟨g, 0, none⟩) K cap) K ((M.getD i []).map wordV)
  word : ∀ r ∈ M, Word r ∧ r.length = K
  dist : ∀ i j, i < j → j < M.length → (vs.getD i nilS).ownBlock ≠ (vs.getD j nilS).ownBlock

theorem RowsOwn.at {w : World} {B K : Nat} {rv : Value} {vs : List Value} {M : List (List Nat)} (h : RowsOwn w B K rv vs M) : MatAt wordV w rv M := by
  have hl : vs.length = M.length := by have := h.own.1; omega
  refine ⟨vs, ListAt.of_owns (n := M.length) (by rw [List.map_id]; exact h.own), hl, fun i => ?_⟩
  by_cases hi : i < M.length
  · obtain ⟨g, cap, e, ho⟩ := h.row i hi
    rw [e]
    exact ListAt.of_owns ho
  · rw [List.getD_eq_getElem?_getD, List.getElem?_eq_none (by omega), List.getD_eq_getElem?_getD, List.getElem?_eq_none (by omega)]
    exact ListAt.nil _ _
theorem RowsOwn.mono {w w' : World} {B K : Nat} {rv : Value} {vs : List Value} {M : List (List Nat)} (h : RowsOwn w B K rv vs M) (hb : Below w.heap.size w w') : RowsOwn w' B K rv vs M :=
  ⟨owns_kept h.own hb, fun i hi => by
    obtain ⟨g, cap, e, ho⟩ := h.row i hi
    exact ⟨g, cap, e, owns_kept ho hb⟩, h.word, h.dist⟩

theorem rows_of_stairs {w : World} {B B' n K S : Nat} {ad : Nat → Option (Nat × Nat)} {us : Nat → List Nat} {rv : Value} (h : StO w B n K S ad us) (hB : B' ≤ B) {Q : Nat} (hQ : B' ≤ Q)
    (ho : w.ownsRow Q 37 1 rv (upK ad n 0).length ((upK ad n 0).map fun d => stairV K (ad d))) :
    RowsOwn w B' K rv ((upK ad n 0).map fun d => stairV K (ad d)) ((upK ad n 0).map us) ∧ vecs ((upK ad n 0).map us) = stNZ (uOf us) n := by
  have hmem : ∀ d ∈ upK ad n 0, d < n ∧ ∃ g cap, ad d = some (g, cap) := fun d hd => by
    rw [upK_zero, List.mem_filter, List.mem_range] at hd
    refine ⟨hd.1, ?_⟩
    cases e : ad d with
    | none => rw [e] at hd; simp at hd
    | some p => exact ⟨p.1, p.2, rfl⟩
  have hpw : (upK ad n 0).Pairwise (· < ·) := by rw [upK_zero]; exact List.Pairwise.filter _ List.pairwise_lt_range
  refine ⟨⟨by rw [List.length_map]; exact ownsRow_base ho hQ, fun i hi => ?_, fun r hr => ?_, fun i j hij hj => ?_⟩, ?_⟩
  · rw [List.length_map] at hi
    obtain ⟨hd, g, cap, e⟩ := hmem _ (List.getElem_mem hi)
    refine ⟨g, cap, by simp [hi, e, stairV], ?_⟩
    obtain ⟨_, _, _, h4⟩ := h.row _ hd g cap e
    have e2 : ((upK ad n 0).map us).getD i [] = us (upK ad n 0)[i] := by simp [hi]
    rw [e2]
    exact ownsRow_base h4 hB
  · obtain ⟨d, hd, rfl⟩ := List.mem_map.1 hr
    obtain ⟨hdn, g, cap, e⟩ := hmem d hd
    obtain ⟨_, h2, h3, _⟩ := h.row _ hdn g cap e
    exact ⟨h3, h2⟩
  · rw [List.length_map] at hj
    have hi : i < (upK ad n 0).length := by omega
    obtain ⟨hd1, g1, c1, e1⟩ := hmem _ (List.getElem_mem hi)
    obtain ⟨hd2, g2, c2, e2⟩ := hmem _ (List.getElem_mem hj)
    have hlt := List.pairwise_iff_getElem.1 hpw i j hi hj hij
    have hne := h.dist _ _ hd1 hd2 (by omega) g1 c1 g2 c2 e1 e2
    simp only [List.getD_eq_getElem?_getD, List.getElem?_map, List.getElem?_eq_getElem hi, List.getElem?_eq_getElem hj, Option.map_some, Option.getD_some, e1, e2, stairV, Value.ownBlock]
    intro e
    exact hne (by simpa using e)
  · unfold vecs stNZ
    rw [List.map_map, upK_zero]
    show List.map (uOf us) _ = List.map (uOf us) _
    congr 1
    apply List.filter_congr
    intro d hd
    have hz := h.uz (List.mem_range.1 hd)
    cases e : ad d with
    | none =>
      have := hz.2 e
      simp [this]
    | some p =>
      have : ¬ uOf us d = vzero := fun hh => by have := hz.1 hh; rw [e] at this; cases this
      simp [this]

set_option maxRecDepth 1000000 in
theorem Plain_bad {w : World} (v : Value) (L : List (List Nat)) (n : Int) (h : MatAt wordV w v L) (hw : ∀ r ∈ L, Word r) (hn : I64 n) (hk : checkM L n ≠ 0) :
    Calls Tryd.prog 23 #[v, .int .i64 n] w fun e w' => ∃ E, e = .returned (.tuple #[.slice none 0 0, E]) ∧ ErrAns (checkM L n) namePlain w' E ∧ Below w.heap.size w w' := by
  have HM := Lib.hid h
  have HW := Lib.hid hw
  have HN := Lib.hid hn
  have HK := Lib.hid hk
  obtain ⟨a, cap, rfl, -, -, -⟩ := h.opens
  clear h hw hn hk
  generalize hkk : checkM L n = k at *
  have HKK := Lib.hid hkk
  clear hkk
  go_enter Tryd.func23, Tryd.ntmps23
  go_wp2_with fail
  refine (MCheck_any _ L n HM.out HW.out HN.out).mono ?_
  rintro e w1 ⟨E1, rfl, hE1, hb1⟩
  rw [HKK.out] at hE1
  obtain ⟨ls, hc1⟩ := hE1.chain HK.out
  have HC1 := Lib.hid hc1
  have HB1 := Lib.hid hb1
  have hsz1 := hb1.size
  obtain ⟨u, v, rfl⟩ := hc1.iface
  clear hc1 hE1 hb1
  go_wp2_with fail
  refine (Wrap_chain namePlain k _ _ _ HC1.out).mono ?_
  rintro e w2 ⟨E2, rfl, hc2, hb2⟩
  have HC2 := Lib.hid hc2
  have HB2 := Lib.hid (HB1.out.trans (hb2.mono hsz1))
  obtain ⟨u2, v2, rfl⟩ := hc2.iface
  clear hc2 hb2
  go_wp2
  go_ret2
  exact ⟨_, rfl, .inr ⟨HK.out, _, HC2.out⟩, HB2.out⟩

set_option maxRecDepth 1000000 in
theorem Plain_ok {w : World} (v : Value) (L : List (List Nat)) (n : Nat) (h : MatAt wordV w v L) (hm : MatOk L n) (hT : Tab w) :
    Calls Tryd.prog 23 #[v, .int .i64 (n : Int)] w fun e w' => ∃ rv vs M, e = .returned (.tuple #[rv, .nilIface]) ∧ RowsOwn w' w.heap.size (kOf n) rv vs M ∧ PF (vecs M) ∧ SpEq (vecs M) (vecs L) ∧ MatOk M n ∧ Below w.heap.size w w' := by
  have HM := Lib.hid h
  have HOK := Lib.hid hm
  have HT := Lib.hid hT
  have HN : Hid (I64 (n : Int)) := Lib.hid (by have := hm.cols; unfold I64; omega)
  have HCH := Lib.hid hm.check
  have hn := hm.cols
  have HK64 := Lib.hid (kOf_le hn)
  obtain ⟨a, cap, rfl, -, -, -⟩ := h.opens
  clear h hm hT
  go_enter Tryd.func23, Tryd.ntmps23
  go_wp2_with fail
  refine (MCheck_any _ L (n : Int) HM.out HOK.out.words HN.out).mono ?_
  rintro e w1 ⟨E1, rfl, hE1, hb1⟩
  rw [HCH.out] at hE1
  obtain rfl := hE1.nil
  have HB1 := Lib.hid hb1
  have hsz1 := hb1.size
  clear hE1 hb1
  go_wp2_with fail
  refine (gather_any _ L n (HM.out.mono HB1.out) HOK.out (HT.out.mono HB1.out)).mono ?_
  rintro e w2 ⟨pv, ad, ws, rfl, hst, hlw, hsp, hp, hb2⟩
  have HST := Lib.hid hst
  have HLW := Lib.hid hlw
  have HSP := Lib.hid hsp
  have HBB := Lib.hid hb2
  have HB2 := Lib.hid (HB1.out.trans (hb2.mono hsz1))
  have hsz12 := hb2.size
  obtain ⟨pa, pc, rfl, -, -⟩ := own_open hp
  clear hst hlw hsp hp hb2
  go_wp2_with fail
  refine (plain_in w1.heap.size n (kOf n) w1.heap.size ad ws HST.out HLW.out hsz12 hn HK64.out (fun h => by unfold kOf; omega)).mono ?_
  rintro e w3 ⟨us, rv, rfl, hst3, hpf, hse, hro, hb3⟩
  obtain ⟨hrows, hvecs⟩ := rows_of_stairs hst3 hsz1 (Nat.le_trans hsz1 hsz12) hro
  have HR := Lib.hid hrows
  have HPF : Hid (PF (vecs ((upK ad n 0).map us))) := Lib.hid (by rw [hvecs]; exact hpf)
  have HSE : Hid (SpEq (vecs ((upK ad n 0).map us)) (vecs L)) := Lib.hid (by rw [hvecs]; exact hse.trans HSP.out)
  have HMK : Hid (MatOk ((upK ad n 0).map us) n) := Lib.hid (by
    refine ⟨hn, ?_, fun r hr => (hrows.word r hr).1, fun r hr => ⟨(hrows.word r hr).2, fun c hc => ?_⟩⟩
    · rw [List.length_map, upK_zero]
      exact Nat.le_trans (List.length_filter_le _ _) (by simpa using hn)
    · have hs := (HSE.out (bitW r)).1 (.mem (List.mem_map.2 ⟨r, hr, rfl⟩))
      exact hs.low fun s hs' => HOK.out.low s hs' c hc)
  have HB3 := Lib.hid ((HB1.out.trans (HBB.out.mono hsz1)).trans (hb3.mono hsz1))
  obtain ⟨ra, rc, rfl, -, -⟩ := own_open hro
  clear hst3 hpf hse hro hb3 hrows hvecs
  go_wp2
  go_ret2
  exact ⟨_, _, _, rfl, HR.out, HPF.out, HSE.out, HMK.out, HB3.out⟩
end Go.Proofs.YtlbeobocppmifaaDoor
