/- Packages packed and geyserref02, what makes lists: Unpack (both), the document's Xor and Pack; Same, SameWords at like lists; Xor, Odd. -/
import Derived.Test.YtdmgcnmapglhiaaDoorPkRead
import Derived.Test.YtdmgcnmapglhiaaDoorErrFault
import Derived.OwnWalk
import Derived.WalkSpells
import Derived.WalkLawsBesides
import Derived.Deep.LoopGhost
namespace Go.Proofs.YtdmgcnmapglhiaaDoor
open Go.RowKit Go.Extern.Stop Go.Stop Go.Extern

def colV (c : Nat) : Value := .int .i64 (c : Int)

theorem ListAt.cols {w : World} {v : Value} {l : List Nat} (h : ListAt colV w v l) : ListAt intV w v (l.map Int.ofNat) := by
  obtain ⟨a, cap, rfl, hc, hm, h⟩ := h
  refine ⟨a, cap, by simp, by simpa using hc, hm, fun hp => ?_⟩
  obtain ⟨b, off, rfl, hcell⟩ := h (by simpa using hp)
  refine ⟨b, off, rfl, fun j hj => ?_⟩
  rw [hcell j (by simpa using hj)]
  simp [intV, colV]

theorem ListAt.take {α : Type} {f : α → Value} {w : World} {a : Option Addr} {cap : Nat} {l : List α} (h : ListAt f w (.slice a l.length cap) l) (k : Nat) (hk : k ≤ l.length) : ListAt f w (.slice a k cap) (l.take k) := by
  obtain ⟨a', cap', e, hc, hm, h⟩ := h
  cases e
  have hl : (l.take k).length = k := by rw [List.length_take]; omega
  refine ⟨a, cap, by rw [hl], by omega, hm, fun hp => ?_⟩
  obtain ⟨b, off, rfl, hcell⟩ := h (by omega)
  refine ⟨b, off, rfl, fun j hj => ?_⟩
  rw [hcell j (by omega)]
  simp

theorem own_snoc {α : Type} {f : α → Value} {w : World} {B q : Nat} {e : TypeId} {v : Value} {l : List α} {x : α} (hq : l.length = q) (h : w.ownsRow B e 1 v (q + 1) (l.map f ++ [f x])) :
    w.ownsRow B e 1 v (l ++ [x]).length ((l ++ [x]).map f) := by
  rw [List.map_append, List.length_append]
  subst hq
  exact h

set_option maxRecDepth 1000000 in
set_option maxHeartbeats 1000000 in
theorem refUnpack_any {w : World} (v : Value) (ws : List Nat) (h : ListAt wordV w v ws) (hw : Word ws) (hlen : ws.length ≤ 100000) :
    Calls Tryd.prog 19 #[v] w fun e w' => ∃ v', e = .returned v' ∧ ListAt colV w' v' (colsOf ws) ∧ Below w.heap.size w w' := by
  obtain ⟨i0, hi, hz0, hz1, hz2⟩ := info_parts info_int
  have HL := Lib.hid h
  have HW := Lib.hid hw
  obtain ⟨a, cap, rfl, -, -, -⟩ := h
  clear hw
  go_enter Tryd.func19, Tryd.ntmps19
  go_wp2
  go_loopw [3, 4] (fun v i wr => ∃ k : Nat, k ≤ 64 * ws.length ∧ i = .int .i64 k ∧ wr.ownsRow w.heap.size 3 1 v (colsTo ws k).length ((colsTo ws k).map colV) ∧ Below w.heap.size w wr) (fun _ i _ => 64 * ws.length - (intOf i).toNat)
  case atStart => exact ⟨0, Nat.zero_le _, rfl, World.ownsRow_made (base := w.heap.size) (e := 3) (size := 1) w #[] 0 (Nat.le_refl _) (by decide) rfl, (Below.refl _ _).alloc (Nat.le_refl _) _⟩
  case round =>
    obtain ⟨k, hk, rfl, hown, hbel⟩ := hrel
    have hsz := hbel.size
    have hq := colsTo_length_le ws k
    by_cases hlt : k < 64 * ws.length
    · by_cases hb : bitW ws k = true
      · have HI : Hid (hasI ws (k : Int) = true) := Lib.hid (by rw [hasI, if_neg (by omega)]; exact hb)
        have HS := Lib.hid (colsTo_one ws k hb)
        have HO := Lib.hid (hown.alloc (.cells #[.int .i64 (k : Int)] 3))
        have HB := Lib.hid hbel
        clear hown hbel hb
        generalize hqe : (colsTo ws k).length = q at *
        have HQ := Lib.hid hqe
        clear hqe
        go_wp2_with fail
        refine (refHas_any _ ws (k : Int) (HL.out.mono HB.out) HW.out hlen (by omega)).mono ?_
        rintro e w1 ⟨rfl, rfl⟩
        rw [HI.out]
        go_wp2_with (at_builtin; refine wpList_append_own _ rfl (.tmp 16) (.tmp 18) 22 rfl w.heap.size 3 i0 (.int .i64 0) 1 8 Tryd.underlying22 hi hz0 hz1 hz2 rfl (by decide) u3 q ((colsTo ws k).map colV) rfl HO.out ⟨wr.heap.size, 0, none⟩ 1 1 [.int .i64 (k : Int)] rfl rfl (cell_one_new _ _ _) (fun x hx => by simp at hx; subst hx; rfl) (by unfold maxLen; omega) (by omega) (by simp; omega) ?_; intro v2 w2 hown1 hgrow1 _; have hb2 := Lib.hid ((HB.out.alloc hsz _).grown hgrow1 (by simp; omega) (fun k hk => (HO.out.lt k hk).1)); have ho2 := Lib.hid hown1; clear hown1 hgrow1)
        go_roundw
        case rel => exact ⟨k + 1, by omega, by go_num, by rw [HS.out]; exact own_snoc HQ.out ho2.out, hb2.out⟩
        case measure => simp [intOf]; omega
      · have hb' : bitW ws k = false := by simpa using hb
        have HI : Hid (hasI ws (k : Int) = false) := Lib.hid (by rw [hasI, if_neg (by omega)]; exact hb')
        have HS := Lib.hid (colsTo_none ws k hb')
        have HO := Lib.hid hown
        have HB := Lib.hid hbel
        clear hown hbel hb hb'
        go_wp2_with fail
        refine (refHas_any _ ws (k : Int) (HL.out.mono HB.out) HW.out hlen (by omega)).mono ?_
        rintro e w1 ⟨rfl, rfl⟩
        rw [HI.out]
        go_wp2
        go_roundw
        case rel => exact ⟨k + 1, by omega, by go_num, by rw [HS.out]; exact HO.out, HB.out⟩
        case measure => simp [intOf]; omega
    · have hk' : k = 64 * ws.length := by omega
      have HO := Lib.hid hown
      have HB := Lib.hid hbel
      clear hown hbel
      go_wp2
      go_ret
      exact ⟨_, rfl, .of_owns (n := (colsTo ws k).length) (by have := HO.out; rw [hk'] at this ⊢; exact this), HB.out⟩

/-! ### packed.Unpack -/
theorem colsTo_end (ws : List Nat) (k n : Nat) (hn : n ≤ 64) (hz : ∀ b, n ≤ b → (ws.getD k 0).testBit b = false) : colsTo ws (64 * (k + 1)) = colsTo ws (64 * k + n) := by
  have := colsTo_gap ws (64 * k + n) (64 - n) fun c h1 h2 => by
    have e : c = k * 64 + (c - 64 * k) := by omega
    rw [e, bitW_at _ _ _ (by omega)]
    exact hz _ (by omega)
  rw [← this]
  congr 1
  omega

set_option maxRecDepth 1000000 in
set_option maxHeartbeats 4000000 in
theorem Unpack_any {w : World} (v : Value) (ws : List Nat) (h : ListAt wordV w v ws) (hw : Word ws) (hlen : ws.length ≤ 100000) :
    Calls Tryd.prog 20 #[v] w fun e w' => ∃ v', e = .returned v' ∧ ListAt colV w' v' (colsOf ws) ∧ Below w.heap.size w w' := by
  obtain ⟨i0, hi, hz0, hz1, hz2⟩ := info_parts info_int
  have HL := Lib.hid h
  have HW := Lib.hid hw
  obtain ⟨a, cap, rfl, -, -, hcell⟩ := h
  have HC := Lib.hid hcell
  clear hw hcell
  have hcn := colsOf_length_le ws
  generalize hcne : (colsOf ws).length = cn at hcn
  go_enter Tryd.func20, Tryd.ntmps20
  go_wp2_with fail
  refine (Count_any _ ws HL.out HW.out hlen).mono ?_
  rintro e w1 ⟨rfl, rfl⟩
  rw [hcne]
  clear hcne
  go_wp2_with (at_make; refine wpList_make_own _ rfl _ _ 22 rfl w.heap.size 3 i0 (.int .i64 0) 1 Tryd.underlying22 hi hz0 hz1 .i64 .i64 _ cn rfl rfl rfl (by rw [hz2]; omega) (by unfold maxLen; omega) (Nat.le_refl _) ?_; intro w0 hown0 hgrow0; have hb0 := Lib.hid ((Below.refl w.heap.size w).grown hgrow0 (Nat.le_refl _) (fun k hk => by cases hk)); have ho0 := Lib.hid hown0; clear hown0 hgrow0)
  go_loopw [3, 12] (fun v i wr => ∃ k : Nat, k ≤ ws.length ∧ i = .int .i64 k ∧ wr.ownsRow w.heap.size 3 1 v (colsTo ws (64 * k)).length ((colsTo ws (64 * k)).map colV) ∧ Below w.heap.size w wr) (fun _ i _ => ws.length - (intOf i).toNat)
  case atStart => exact ⟨0, Nat.zero_le _, rfl, ho0.out, hb0.out⟩
  case round =>
    obtain ⟨k, hk, rfl, hown, hbel⟩ := hrel
    have hsz := hbel.size
    by_cases hlt : k < ws.length
    · obtain ⟨b, off, rfl, hcc⟩ := HC.out (by omega)
      have hx0 : w.cell? ⟨b, off + k, none⟩ = some (.int .u64 (ws[k] : Int)) := hcc k hlt
      have hx : wr.cell? ⟨b, off + k, none⟩ = some (.int .u64 (ws[k] : Int)) := (hbel.cell (p := ⟨b, off + k, none⟩) (World.block_lt_of_cell? w _ hx0)).trans hx0
      have hxlt := HW.out _ (List.getElem_mem hlt)
      have HX : Hid (ws.getD k 0 = ws[k]) := by
        show _ = _
        rw [List.getD_eq_getElem?_getD, List.getElem?_eq_getElem hlt]; rfl
      clear hcc hx0
      generalize ws[k] = x at *
      obtain ⟨hn64, hnz⟩ := bitLen_lt x hxlt
      have HE : Hid (colsTo ws (64 * (k + 1)) = colsTo ws (64 * k + Lib.bitLen x)) := Lib.hid (colsTo_end ws k _ hn64 (by rw [HX.out]; exact hnz))
      have HO := Lib.hid hown
      have HB := Lib.hid hbel
      clear hown hbel hnz
      go_wp2_with fail
      refine (Len64_any x hxlt _).mono ?_
      rintro e w1 ⟨rfl, rfl⟩
      generalize Lib.bitLen x = n at *
      go_wp2_with fail
      go_loopw [3, 19] (fun v i wq => ∃ m : Nat, m ≤ n ∧ i = .int .i64 m ∧ wq.ownsRow w.heap.size 3 1 v (colsTo ws (64 * k + m)).length ((colsTo ws (64 * k + m)).map colV) ∧ Below w.heap.size w wq) (fun _ i _ => n - (intOf i).toNat)
      case atStart => exact ⟨0, Nat.zero_le _, rfl, HO.out, HB.out⟩
      case round =>
        obtain ⟨m, hm, rfl, hown, hbel⟩ := hrel
        have hsz := hbel.size
        have hq := colsTo_length_le ws (64 * k + m)
        by_cases hmn : m < n
        · have HBW : Hid (bitW ws (64 * k + m) = x.testBit m) := Lib.hid (by rw [show 64 * k + m = k * 64 + m by omega, bitW_at _ _ _ (by omega), HX.out])
          by_cases hb : x.testBit m = true
          · have hbit := (shr_and_one x m hxlt).trans hb
            have HS := Lib.hid (colsTo_one ws (64 * k + m) (HBW.out.trans hb))
            have HO := Lib.hid (hown.alloc (.cells #[.int .i64 ((k : Int) * 64 + (m : Int))] 3))
            have HB := Lib.hid hbel
            have HV : Hid (Value.int .i64 ((k : Int) * 64 + (m : Int)) = colV (64 * k + m)) := Lib.hid (by unfold colV; congr 1; omega)
            generalize hqe : (colsTo ws (64 * k + m)).length = q at *
            have HQ := Lib.hid hqe
            clear hqe hown hbel hb
            go_wp2_with (at_builtin; refine wpList_append_own _ rfl (.tmp 27) (.tmp 32) 22 rfl w.heap.size 3 i0 (.int .i64 0) 1 8 Tryd.underlying22 hi hz0 hz1 hz2 rfl (by decide) u3 q ((colsTo ws (64 * k + m)).map colV) rfl HO.out ⟨wr.heap.size, 0, none⟩ 1 1 [.int .i64 ((k : Int) * 64 + (m : Int))] rfl rfl (cell_one_new _ _ _) (fun x hx => by simp at hx; subst hx; rfl) (by unfold maxLen; omega) (by omega) (by simp; omega) ?_; intro v2 w2 hown1 hgrow1 _; have hb2 := Lib.hid ((HB.out.alloc hsz _).grown hgrow1 (by simp; omega) (fun k hk => (HO.out.lt k hk).1)); have ho2 := Lib.hid hown1; clear hown1 hgrow1)
            go_roundw
            case rel => exact ⟨m + 1, by omega, by go_num, by rw [← Nat.add_assoc, HS.out]; have := ho2.out; rw [HV.out] at this; exact own_snoc HQ.out this, hb2.out⟩
            case measure => simp [intOf]; omega
          · have hb' : x.testBit m = false := by simpa using hb
            have hbit := (shr_and_one x m hxlt).trans hb'
            have HS := Lib.hid (colsTo_none ws (64 * k + m) (HBW.out.trans hb'))
            have HO := Lib.hid hown
            have HB := Lib.hid hbel
            clear hown hbel hb hb'
            go_wp2
            go_roundw
            case rel => exact ⟨m + 1, by omega, by go_num, by rw [← Nat.add_assoc, HS.out]; exact HO.out, HB.out⟩
            case measure => simp [intOf]; omega
        · have hmn' : m = n := by omega
          have HO : Hid (wr.ownsRow w.heap.size 3 1 u3 (colsTo ws (64 * (k + 1))).length ((colsTo ws (64 * (k + 1))).map colV)) := Lib.hid (by rw [HE.out, ← hmn']; exact hown)
          have HB := Lib.hid hbel
          clear hown hbel
          go_wp2
          go_roundw
          case rel => exact ⟨k + 1, by omega, by go_num, HO.out, HB.out⟩
          case measure => simp [intOf]; omega
    · have hk' : k = ws.length := by omega
      have HO := Lib.hid hown
      have HB := Lib.hid hbel
      clear hown hbel
      go_wp2
      go_ret
      exact ⟨_, rfl, .of_owns (n := (colsTo ws (64 * k)).length) (by have := HO.out; rw [hk'] at this ⊢; exact this), HB.out⟩

/-! ### the document's exclusive or -/
def symI (l m : List Int) (n : Nat) : List Nat := (List.range n).filter fun c => decide ((c : Int) ∈ l) != decide ((c : Int) ∈ m)
theorem symI_length_le (l m : List Int) (n : Nat) : (symI l m n).length ≤ n := Nat.le_trans (List.length_filter_le _ _) (by simp)
theorem symI_one (l m : List Int) (n : Nat) (h : (decide ((n : Int) ∈ l) != decide ((n : Int) ∈ m)) = true) : symI l m (n + 1) = symI l m n ++ [n] := by
  unfold symI; rw [List.range_succ, List.filter_append]; simp only [List.filter_cons, List.filter_nil, h]; rfl
theorem symI_none (l m : List Int) (n : Nat) (h : (decide ((n : Int) ∈ l) != decide ((n : Int) ∈ m)) = false) : symI l m (n + 1) = symI l m n := by
  unfold symI; rw [List.range_succ, List.filter_append]; simp only [List.filter_cons, List.filter_nil, h]; simp

theorem neqBool (p q r : Bool) (h : (p != q) = r) (w : World) : (binOp .neq 4 (.bool p) (.bool q)).run Tryd.prog w = .ok (.bool r) w := by
  subst h; cases p <;> cases q <;> kernel_rfl

set_option maxRecDepth 1000000 in
set_option maxHeartbeats 4000000 in
theorem refXor_any {w : World} (v1 v2 : Value) (l m : List Int) (n : Nat) (hn : n ≤ 6400000) (h1 : ListAt intV w v1 l) (h2 : ListAt intV w v2 m) :
    Calls Tryd.prog 27 #[v1, v2, .int .i64 (n : Int)] w fun e w' => ∃ v', e = .returned v' ∧ ListAt colV w' v' (symI l m n) ∧ Below w.heap.size w w' := by
  obtain ⟨i0, hi, hz0, hz1, hz2⟩ := info_parts info_int
  have H1 := Lib.hid h1
  have H2 := Lib.hid h2
  obtain ⟨a1, cap1, rfl, -, -, -⟩ := h1
  obtain ⟨a2, cap2, rfl, -, -, -⟩ := h2
  go_enter Tryd.func27, Tryd.ntmps27
  go_wp2
  go_loopw [7, 8] (fun v i wr => ∃ k : Nat, k ≤ n ∧ i = .int .i64 k ∧ wr.ownsRow w.heap.size 3 1 v (symI l m k).length ((symI l m k).map colV) ∧ Below w.heap.size w wr) (fun _ i _ => n - (intOf i).toNat)
  case atStart => exact ⟨0, Nat.zero_le _, rfl, World.ownsRow_made (base := w.heap.size) (e := 3) (size := 1) w #[] 0 (Nat.le_refl _) (by decide) rfl, (Below.refl _ _).alloc (Nat.le_refl _) _⟩
  case round =>
    obtain ⟨k, hk, rfl, hown, hbel⟩ := hrel
    have hsz := hbel.size
    have hq := symI_length_le l m k
    by_cases hlt : k < n
    · by_cases hb : (decide ((k : Int) ∈ l) != decide ((k : Int) ∈ m)) = true
      · have HN := Lib.hid (neqBool _ _ _ hb)
        have HS := Lib.hid (symI_one l m k hb)
        have HO := Lib.hid (hown.alloc (.cells #[.int .i64 (k : Int)] 3))
        have HB := Lib.hid hbel
        generalize hqe : (symI l m k).length = q at *
        have HQ := Lib.hid hqe
        clear hqe hown hbel hb
        go_wp2_with fail
        refine (In_any _ l (k : Int) (H1.out.mono HB.out)).mono ?_
        rintro e w1 ⟨rfl, rfl⟩
        go_wp2_with fail
        refine (In_any _ m (k : Int) (H2.out.mono HB.out)).mono ?_
        rintro e w1 ⟨rfl, rfl⟩
        have hN := HN.out
        generalize decide ((k : Int) ∈ l) = p1 at hN ⊢
        generalize decide ((k : Int) ∈ m) = p2 at hN ⊢
        clear HN
        go_wp2_with (at_builtin; refine wpList_append_own _ rfl (.tmp 22) (.tmp 24) 22 rfl w.heap.size 3 i0 (.int .i64 0) 1 8 Tryd.underlying22 hi hz0 hz1 hz2 rfl (by decide) u7 q ((symI l m k).map colV) rfl HO.out ⟨wr.heap.size, 0, none⟩ 1 1 [.int .i64 (k : Int)] rfl rfl (cell_one_new _ _ _) (fun x hx => by simp at hx; subst hx; rfl) (by unfold maxLen; omega) (by omega) (by simp; omega) ?_; intro v2 w2 hown1 hgrow1 _; have hb2 := Lib.hid ((HB.out.alloc hsz _).grown hgrow1 (by simp; omega) (fun k hk => (HO.out.lt k hk).1)); have ho2 := Lib.hid hown1; clear hown1 hgrow1)
        go_roundw
        case rel => exact ⟨k + 1, by omega, by go_num, by rw [HS.out]; exact own_snoc HQ.out ho2.out, hb2.out⟩
        case measure => simp [intOf]; omega
      · have hb' : (decide ((k : Int) ∈ l) != decide ((k : Int) ∈ m)) = false := by simpa using hb
        have HN := Lib.hid (neqBool _ _ _ hb')
        have HS := Lib.hid (symI_none l m k hb')
        have HO := Lib.hid hown
        have HB := Lib.hid hbel
        clear hown hbel hb hb'
        go_wp2_with fail
        refine (In_any _ l (k : Int) (H1.out.mono HB.out)).mono ?_
        rintro e w1 ⟨rfl, rfl⟩
        go_wp2_with fail
        refine (In_any _ m (k : Int) (H2.out.mono HB.out)).mono ?_
        rintro e w1 ⟨rfl, rfl⟩
        have hN := HN.out
        generalize decide ((k : Int) ∈ l) = p1 at hN ⊢
        generalize decide ((k : Int) ∈ m) = p2 at hN ⊢
        clear HN
        go_wp2
        go_roundw
        case rel => exact ⟨k + 1, by omega, by go_num, by rw [HS.out]; exact HO.out, HB.out⟩
        case measure => simp [intOf]; omega
    · have hk' : k = n := by omega
      have HO := Lib.hid hown
      have HB := Lib.hid hbel
      clear hown hbel
      go_wp2
      go_ret
      exact ⟨_, rfl, .of_owns (n := (symI l m k).length) (by have := HO.out; rw [hk'] at this ⊢; exact this), HB.out⟩

/-! ### like lists are the same -/
theorem below_draws {B : Nat} {a w : World} (h : Below B a w) (n : Nat) : Below B a (w.drewN n) := h.trans ⟨rfl, rfl, rfl, Nat.le_refl _, fun _ _ => rfl⟩

set_option maxRecDepth 1000000 in
theorem SameI_any {w : World} (v1 v2 : Value) (l : List Int) (h1 : ListAt intV w v1 l) (h2 : ListAt intV w v2 l) :
    Calls Tryd.prog 13 #[v1, v2] w fun e w' => e = .returned (.bool true) ∧ Below w.heap.size w w' := by
  have hlen := h1.len
  obtain ⟨a1, cap1, rfl, hcap1, -, hcell1⟩ := h1
  obtain ⟨a2, cap2, rfl, hcap2, -, hcell2⟩ := h2
  have HC1 := Lib.hid hcell1
  have HC2 := Lib.hid hcell2
  clear hcell1 hcell2
  go_enter Tryd.func13, Tryd.ntmps13
  go_wp2
  go_loopw [5] (fun i wr => ∃ k : Nat, k ≤ l.length ∧ i = .int .i64 k ∧ Below w.heap.size w wr) (fun i _ => l.length - (intOf i).toNat)
  case atStart => exact ⟨0, Nat.zero_le _, rfl, Below.refl _ _⟩
  case round =>
    obtain ⟨k, hk, rfl, hbel⟩ := hrel
    have HB := Lib.hid hbel
    by_cases hlt : k < l.length
    · obtain ⟨b1, off1, rfl, hc1⟩ := HC1.out (by omega)
      obtain ⟨b2, off2, rfl, hc2⟩ := HC2.out (by omega)
      have hx1 : w.cell? ⟨b1, off1 + k, none⟩ = some (.int .i64 l[k]) := hc1 k hlt
      have hx2 : w.cell? ⟨b2, off2 + k, none⟩ = some (.int .i64 l[k]) := hc2 k hlt
      have hy1 : wr.cell? ⟨b1, off1 + k, none⟩ = some (.int .i64 l[k]) := (hbel.cell (p := ⟨b1, off1 + k, none⟩) (World.block_lt_of_cell? w _ hx1)).trans hx1
      have hy2 : wr.cell? ⟨b2, off2 + k, none⟩ = some (.int .i64 l[k]) := (hbel.cell (p := ⟨b2, off2 + k, none⟩) (World.block_lt_of_cell? w _ hx2)).trans hx2
      clear hbel hc1 hc2 hx1 hx2
      generalize l[k] = y at *
      have hyb : (y != y) = false := by simp
      go_wp2
      go_quiet (fail)
      go_wp2
      go_roundw
      case rel => exact ⟨k + 1, by omega, by go_num, below_draws HB.out _⟩
      case measure => simp [intOf]; omega
    · clear hbel
      go_wp2
      go_ret
      exact ⟨rfl, HB.out⟩

set_option maxRecDepth 1000000 in
theorem SameW_any {w : World} (v1 v2 : Value) (l : List Nat) (h1 : ListAt wordV w v1 l) (h2 : ListAt wordV w v2 l) :
    Calls Tryd.prog 16 #[v1, v2] w fun e w' => e = .returned (.bool true) ∧ Below w.heap.size w w' := by
  have hlen := h1.len
  obtain ⟨a1, cap1, rfl, hcap1, -, hcell1⟩ := h1
  obtain ⟨a2, cap2, rfl, hcap2, -, hcell2⟩ := h2
  have HC1 := Lib.hid hcell1
  have HC2 := Lib.hid hcell2
  clear hcell1 hcell2
  go_enter Tryd.func16, Tryd.ntmps16
  go_wp2
  go_loopw [5] (fun i wr => ∃ k : Nat, k ≤ l.length ∧ i = .int .i64 k ∧ Below w.heap.size w wr) (fun i _ => l.length - (intOf i).toNat)
  case atStart => exact ⟨0, Nat.zero_le _, rfl, Below.refl _ _⟩
  case round =>
    obtain ⟨k, hk, rfl, hbel⟩ := hrel
    have HB := Lib.hid hbel
    by_cases hlt : k < l.length
    · obtain ⟨b1, off1, rfl, hc1⟩ := HC1.out (by omega)
      obtain ⟨b2, off2, rfl, hc2⟩ := HC2.out (by omega)
      have hx1 : w.cell? ⟨b1, off1 + k, none⟩ = some (.int .u64 (l[k] : Int)) := hc1 k hlt
      have hx2 : w.cell? ⟨b2, off2 + k, none⟩ = some (.int .u64 (l[k] : Int)) := hc2 k hlt
      have hy1 : wr.cell? ⟨b1, off1 + k, none⟩ = some (.int .u64 (l[k] : Int)) := (hbel.cell (p := ⟨b1, off1 + k, none⟩) (World.block_lt_of_cell? w _ hx1)).trans hx1
      have hy2 : wr.cell? ⟨b2, off2 + k, none⟩ = some (.int .u64 (l[k] : Int)) := (hbel.cell (p := ⟨b2, off2 + k, none⟩) (World.block_lt_of_cell? w _ hx2)).trans hx2
      clear hbel hc1 hc2 hx1 hx2
      generalize l[k] = y at *
      have hyb : ((y : Int) != (y : Int)) = false := by simp
      go_wp2
      go_quiet (fail)
      go_wp2
      go_roundw
      case rel => exact ⟨k + 1, by omega, by go_num, below_draws HB.out _⟩
      case measure => simp [intOf]; omega
    · clear hbel
      go_wp2
      go_ret
      exact ⟨rfl, HB.out⟩
end Go.Proofs.YtdmgcnmapglhiaaDoor
