import Derived.Deep.AppendLies
import Derived.Deep.RegionLaw
import Derived.Maps.AppendAt
import Derived.Test.YtkfimdpcadbcpaaGreatDoorA05
import Derived.Test.YtkfimdpcadbcpaaGreatDoorA10
import Derived.Test.YtkfimdpcadbcpaaGreatDoorA02
import Derived.Test.YtkfimdpcadbcpaaGreatDoorA01
import Derived.OwnWalk
import Derived.WalkSpells
import Derived.WalkLawsBesides
import Derived.Deep.LoopGhost
import Derived.RangeFuncNested
import Derived.RangeFuncBound
import Derived.RangeFuncCalls
import Derived.RangeFuncLeaves
import Derived.Shelf.Abstract
import Derived.Shelf.RegionOpen
import Derived.OwnWalkIn
import Derived.TacticsInMore
import Derived.LoopNIn
import Derived.LoopIn
import Derived.StillTailTactics
import Derived.OrdersIn
set_option linter.unusedSimpArgs false
set_option linter.unusedVariables false
set_option maxRecDepth 1000000
set_option maxHeartbeats 8000000
namespace Go.Proofs.YtkfimdpcadbcpaaGreatDoor
section
open Go.RowKit Go.Extern.Stop Go.Stop Go.Extern
theorem zJB : (Tryz.prog.info? 32).map (fun i => (i.zero, i.size, i.bytes)) = some (some (.slice none 0 0), 1, 24) := by kernel_rfl
structure RowsM (W : World) (B bx G n : Nat) (vs : Nat → Value) (f : Nat → List Nat) : Prop where
  box : W.heap[bx]? = some (.cells #[.slice (some ⟨G, 0, none⟩) n n] 185 (0, 0))
  own : W.ownsRow B 32 1 (.slice (some ⟨G, 0, none⟩) n n) n ((List.range n).map vs)
  row : ∀ r, r < n → W.ownsRow B 3 1 (vs r) (f r).length ((f r).map colV)
  dist : ∀ r s, r < n → s < n → r ≠ s → (vs r).ownBlock = none ∨ (vs r).ownBlock ≠ (vs s).ownBlock
  le : B ≤ bx
section
variable {W W' : World} {B bx G n : Nat} {vs : Nat → Value} {f g : Nat → List Nat}
theorem RowsM.congr (h : RowsM W B bx G n vs f) (e : ∀ r, r < n → f r = g r) : RowsM W B bx G n vs g := ⟨h.box, h.own, fun r hr => by rw [← e r hr]; exact h.row r hr, h.dist, h.le⟩
theorem RowsM.mono (h : RowsM W B bx G n vs f) (hb : Below W.heap.size W W') : RowsM W' B bx G n vs f :=
  ⟨(hb.block bx (Array.getElem?_eq_some_iff.1 h.box).1).trans h.box, zAh h.own hb, fun r hr => zAh (h.row r hr) hb, h.dist, h.le⟩
theorem RowsM.gheap (h : RowsM W B bx G n vs f) : B ≤ G ∧ ∃ cur, W.heap[G]? = some (.cells cur 32 (0, 0)) := by
  obtain ⟨h1, h2, h3⟩ := zAQ h.own
  exact ⟨h1, _, h3⟩
theorem RowsM.ne_box (h : RowsM W B bx G n vs f) {r : Nat} (hr : r < n) : (vs r).ownBlock ≠ some bx := by
  intro e
  rcases (h.row r hr).2 with ⟨e1, _⟩ | ⟨g', cap, cur, e1, _, hg, _⟩
  · rw [e1] at e; cases e
  · rw [e1] at e
    have : g' = bx := by simpa [Value.ownBlock] using e
    rw [this, h.box] at hg
    simp at hg
theorem RowsM.ne_heads (h : RowsM W B bx G n vs f) {r : Nat} (hr : r < n) : (vs r).ownBlock ≠ some G := by
  obtain ⟨-, cu, hG⟩ := h.gheap
  intro e
  rcases (h.row r hr).2 with ⟨e1, _⟩ | ⟨g', cap, cur, e1, _, hg, _⟩
  · rw [e1] at e; cases e
  · rw [e1] at e
    have : g' = G := by simpa [Value.ownBlock] using e
    rw [this, hG] at hg
    simp at hg
theorem RowsM.bG (h : RowsM W B bx G n vs f) : bx ≠ G := by
  obtain ⟨-, cu, hG⟩ := h.gheap
  intro e
  have := h.box
  rw [e, hG] at this
  simp at this
theorem RowsM.slice (h : RowsM W B bx G n vs f) {r : Nat} (hr : r < n) : ∃ a cap, vs r = .slice a (f r).length cap := by
  rcases (h.row r hr).2 with ⟨e1, e2⟩ | ⟨g', cap, cur, e1, _⟩
  · exact ⟨none, 0, by rw [e1, e2]⟩
  · exact ⟨_, cap, e1⟩
theorem RowsM.head (h : RowsM W B bx G n vs f) {r : Nat} (hr : r < n) : W.cell? ⟨G, r, none⟩ = some (vs r) := by
  rw [h.own.cellAt r (by omega)]
  simp [hr]
theorem RowsM.add (h : RowsM W B bx G n vs f) {r x g cap : Nat} (hr : r < n) (hown : W'.ownsRow B 3 1 (.slice (some ⟨g, 0, none⟩) ((f r).length + 1) cap) ((f r).length + 1) ((f r).map colV ++ [colV x]))
    (hg : W.grownBy W' (vs r).ownBlock) (hat : (vs r).ownBlock = some g ∨ W.heap.size ≤ g) :
    RowsM (W'.setCell ⟨G, r, none⟩ (.slice (some ⟨g, 0, none⟩) ((f r).length + 1) cap)) B bx G n (fun d => if d = r then .slice (some ⟨g, 0, none⟩) ((f r).length + 1) cap else vs d) (addAt f r x) := by
  obtain ⟨hBG, cu, hG⟩ := h.gheap
  have hneG : g ≠ G := by
    rcases hat with hat | hat
    · intro e; subst e; exact h.ne_heads hr hat
    · have := (Array.getElem?_eq_some_iff.1 hG).1; omega
  have hG' : W'.heap[G]? = some (.cells cu 32 (0, 0)) := (hg.block G (Array.getElem?_eq_some_iff.1 hG).1 (fun e => h.ne_heads hr e.symm)).trans hG
  have hown1 : W'.ownsRow B 32 1 (.slice (some ⟨G, 0, none⟩) n n) n ((List.range n).map vs) := h.own.kept hg (.inr (fun e => h.ne_heads hr e.symm))
  obtain ⟨s1, s2⟩ := hown1.stored r (.slice (some ⟨g, 0, none⟩) ((f r).length + 1) cap)
  have hkeep : ∀ {v : Value} {q : Nat} {xs : List Value} {B' : Nat}, W'.ownsRow B' 3 1 v q xs → (W'.setCell ⟨G, r, none⟩ (.slice (some ⟨g, 0, none⟩) ((f r).length + 1) cap)).ownsRow B' 3 1 v q xs := fun {v q xs B'} ho => by
    refine ho.kept s2 (.inr fun e => ?_)
    rcases ho.2 with ⟨rfl, _⟩ | ⟨g', c', cur, rfl, _, hg', _⟩
    · simp [Value.ownBlock] at e
    · have : g' = G := by simpa [Value.ownBlock] using e
      rw [this, hG'] at hg'
      simp at hg'
  refine ⟨?_, ?_, fun d hd => ?_, fun d e hd he hde => ?_, h.le⟩
  · rw [Below.heap_setCell _ _ _ _ h.bG, hg.block bx (Array.getElem?_eq_some_iff.1 h.box).1 (fun e => h.ne_box hr e.symm)]
    exact h.box
  · have e : (List.range n).map (fun d => if d = r then Value.slice (some ⟨g, 0, none⟩) ((f r).length + 1) cap else vs d) = ((List.range n).map vs).set r (.slice (some ⟨g, 0, none⟩) ((f r).length + 1) cap) := by
      apply List.ext_getElem
      · simp
      · intro i a1 a2
        simp only [List.getElem_map, List.getElem_range, List.getElem_set]
        by_cases ei : i = r
        · subst ei; simp
        · rw [if_neg ei, if_neg (fun h => ei h.symm)]
    rw [e]; exact s1
  · by_cases ed : d = r
    · subst ed
      unfold addAt
      rw [if_pos rfl, if_pos rfl, List.length_append, List.map_append]
      exact hkeep hown
    · unfold addAt
      rw [if_neg ed, if_neg ed]
      refine hkeep ((h.row d hd).kept hg ?_)
      exact h.dist d r hd hr ed
  · have key : ∀ e, e < n → e ≠ r → (vs e).ownBlock = none ∨ (vs e).ownBlock ≠ some g := fun e he her => by
      rcases hat with hat | hat
      · rw [← hat]; exact h.dist e r he hr her
      · right
        intro e'
        have := ((h.row e he).lt g e').2
        omega
    by_cases ed : d = r
    · subst ed
      rw [if_pos rfl, if_neg (fun h => hde h.symm)]
      rcases key e he (fun h => hde h.symm) with k | k
      · right; rw [k]; simp [Value.ownBlock]
      · right; intro e'; exact k e'.symm
    · rw [if_neg ed]
      by_cases ee : e = r
      · subst ee
        rw [if_pos rfl]
        exact key d hd ed
      · rw [if_neg ee]
        exact h.dist d e hd he hde
theorem RowsM.at (h : RowsM W B bx G n vs f) : MatAt colV W (.slice (some ⟨G, 0, none⟩) n n) ((List.range n).map f) := by
  refine ⟨(List.range n).map vs, ListAt.of_owns (f := id) (by rw [List.map_id]; exact h.own), by simp, fun i => ?_⟩
  by_cases hi : i < n
  · simpa [hi] using ListAt.of_owns (h.row i hi)
  · rw [List.getD_eq_getElem?_getD, List.getD_eq_getElem?_getD, List.getElem?_eq_none (by simp; omega), List.getElem?_eq_none (by simp; omega)]
    exact ListAt.nil _ _
end
theorem zGM {w : World} (B bx G n r x : Nat) (vs : Nat → Value) (f : Nat → List Nat) (h : RowsM w B bx G n vs f) (hr : r < n) (hl : ∀ d, (f d).length ≤ 100000) (hB : B ≤ w.heap.size) :
    Calls Tryz.prog 235 #[.int .i64 (r : Int), .int .i64 (x : Int), .pointer (some ⟨bx, 0, none⟩)] w fun e w' => (∃ v, e = .returned v) ∧ (∃ vs', RowsM w' B bx G n vs' (addAt f r x) ∧ (∀ b, b < w.heap.size → b ≠ G → (∀ d, d < n → (vs d).ownBlock ≠ some b) → w'.heap[b]? = w.heap[b]? ∧ ∀ d, d < n → (vs' d).ownBlock ≠ some b)) ∧ Below B w w' := by
  obtain ⟨i0, hi0, hz0, hz1, hz2⟩ := info_parts zAR
  have hb0 := zAa (j := 0) (u := .slice (some ⟨G, 0, none⟩) n n) h.box rfl
  have hrow := h.head hr
  have hfr : w.frozen? ⟨G, r, none⟩ = false := h.own.frozenAt r
  obtain ⟨a, cap, hv⟩ := h.slice hr
  have hlr := hl r
  have HM := lhd h
  have HV := lhd hv
  rw [hv] at hrow
  have HO := lhd (h.row r hr)
  have HEND : Hid (∀ (g c : Nat) (w2 : World), w2.ownsRow B 3 1 (.slice (some ⟨g, 0, none⟩) ((f r).length + 1) c) ((f r).length + 1) ((f r).map colV ++ [colV x]) → ((w.alloc (.cells #[.int .i64 (x : Int)] 3)).drew).grownBy w2 (vs r).ownBlock → ((vs r).ownBlock = some g ∨ g = w.heap.size + 1) →
      ((∃ vs', RowsM (w2.setCell ⟨G, r, none⟩ (.slice (some ⟨g, 0, none⟩) ((f r).length + 1) c)) B bx G n vs' (addAt f r x) ∧ (∀ b, b < w.heap.size → b ≠ G → (∀ d, d < n → (vs d).ownBlock ≠ some b) → (w2.setCell ⟨G, r, none⟩ (.slice (some ⟨g, 0, none⟩) ((f r).length + 1) c)).heap[b]? = w.heap[b]? ∧ ∀ d, d < n → (vs' d).ownBlock ≠ some b)) ∧ Below B w (w2.setCell ⟨G, r, none⟩ (.slice (some ⟨g, 0, none⟩) ((f r).length + 1) c))) ∧
      w2.cell? ⟨bx, 0, none⟩ = some (.slice (some ⟨G, 0, none⟩) n n) ∧ w2.cell? ⟨G, r, none⟩ = some (.slice a (f r).length cap) ∧ w2.frozen? ⟨G, r, none⟩ = false) :=
    lhd fun g c w2 h1 h2 h3 => by
      have hbel : Below w.heap.size w ((w.alloc (.cells #[.int .i64 (x : Int)] 3)).drew) := ((Below.refl _ _).alloc (Nat.le_refl _) _).drew
      have h' := h.mono hbel
      refine ⟨⟨⟨_, h'.add hr h1 h2 (h3.imp id (fun e => by simp; omega)), fun b hb hbG hbv => ⟨?_, fun d hd => ?_⟩⟩, ((hbel.mono hB).grown h2 (by simp; omega) (fun k hk => ((h'.row r hr).lt k hk).1)).setCell (p := ⟨G, r, none⟩) h.gheap.1 _⟩, ?_, ?_, ?_⟩
      · rw [Below.heap_setCell _ _ _ _ hbG, h2.block b (by simp; omega) (fun e => hbv r hr e.symm)]
        exact hbel.block b hb
      · by_cases ed : d = r
        · rw [if_pos ed]
          intro e
          have e' : g = b := by simpa [Value.ownBlock] using e
          rcases h3 with h3 | h3
          · exact hbv r hr (by rw [← e']; exact h3)
          · omega
        · rw [if_neg ed]; exact hbv d hd
      · exact zAa ((h2.block bx (Array.getElem?_eq_some_iff.1 h'.box).1 (fun e => h'.ne_box hr e.symm)).trans h'.box) rfl
      · rw [World.cell?_of_block (w := (w.alloc (.cells #[.int .i64 (x : Int)] 3)).drew) (a := ⟨G, r, none⟩) (h2.block G (h'.own.lt G rfl).2 (fun e => h'.ne_heads hr e.symm)), h'.head hr, hv]
      · rw [World.frozen?_of_block (w := (w.alloc (.cells #[.int .i64 (x : Int)] 3)).drew) (a := ⟨G, r, none⟩) (h2.block G (h'.own.lt G rfl).2 (fun e => h'.ne_heads hr e.symm))]
        exact h'.own.frozenAt r
  have HO2 : Hid (((w.alloc (.cells #[.int .i64 (x : Int)] 3)).drew).ownsRow B 3 1 (vs r) (f r).length ((f r).map colV)) := lhd ((h.mono (((Below.refl _ _).alloc (Nat.le_refl _) _).drew)).row r hr)
  have hb0a := (h.mono ((Below.refl _ _).alloc (Nat.le_refl _) (.cells #[.int .i64 (x : Int)] 3))).box
  have hb0a := zAa (j := 0) (u := .slice (some ⟨G, 0, none⟩) n n) hb0a rfl
  have hrowa := (h.mono ((Below.refl _ _).alloc (Nat.le_refl _) (.cells #[.int .i64 (x : Int)] 3))).head hr
  have hfra : (w.alloc (.cells #[.int .i64 (x : Int)] 3)).frozen? ⟨G, r, none⟩ = false := (h.mono ((Below.refl _ _).alloc (Nat.le_refl _) (.cells #[.int .i64 (x : Int)] 3))).own.frozenAt r
  rw [hv] at HO2
  rw [hv] at HEND
  rw [hv] at hrowa
  clear h hv hl
  generalize (f r).length = q at *
  generalize (f r).map colV = Q at *
  go_enter Tryz.func235, Tryz.ntmps235
  go_wp2_with fail
  go_region_law (first
    | (refine step_append_lies _ rfl (.tmp 10) (.tmp 12) 32 rfl B 3 i0 (.int .i64 0) 1 8 Tryz.underlying32 hi0 hz0 hz1 hz2 rfl (by decide) (.slice a q cap) q Q (by simp [Act.eval]) HO2.out ⟨w.heap.size, 0, none⟩ 1 1 [.int .i64 (x : Int)] (by simp [Act.eval]) rfl (fun j u hu => cell_one_new w _ _ j u hu) (fun x hx => by simp at hx; subst hx; rfl) (by decide) (by unfold maxLen; omega) (by omega) (by simp; omega) (w.heap.size + 1) (by simp) ?_; intro g2 c2 w2 hown1 hgrow1 hat1 _; obtain ⟨⟨hE1, hE2⟩, hc1, hc2, hc3⟩ := HEND.out g2 c2 w2 hown1 hgrow1 hat1; have HE1 := lhd hE1; have HE2 := lhd hE2; clear hown1 hgrow1 hat1 hE1 hE2))
  all_goals
    go_wp2
    go_end0
    exact ⟨⟨_, rfl⟩, HE1.out, HE2.out⟩
end

section
open Go.RowKit Go.Extern.Stop Go.Stop Go.Extern
theorem zMU (a b : Nat) (ha : a < 4611686018427387904) (hb : b < 4611686018427387904) : bits .xor .i64 (a : Int) (b : Int) = ((a ^^^ b : Nat) : Int) := by
  have hx : a ^^^ b < 2 ^ 62 := Nat.xor_lt_two_pow (by omega) (by omega)
  have h1 : (BitVec.ofInt 64 (a : Int)).toNat = a := by
    rw [BitVec.ofInt_natCast, BitVec.toNat_ofNat]; exact Nat.mod_eq_of_lt (by omega)
  have h2 : (BitVec.ofInt 64 (b : Int)).toNat = b := by
    rw [BitVec.ofInt_natCast, BitVec.toNat_ofNat]; exact Nat.mod_eq_of_lt (by omega)
  show IntKind.i64.wrap ((BitVec.ofInt 64 (a : Int) ^^^ BitVec.ofInt 64 (b : Int)).toNat : Int) = _
  rw [BitVec.toNat_xor, h1, h2, IntKind.wrap_i64]
  omega
theorem zMv {i : Nat} (h : i < 1048576) : bits .xor .i64 (i : Int) ((i : Int) / 2) = ((gry i : Nat) : Int) := by
  rw [show ((i : Int) / 2) = ((i / 2 : Nat) : Int) by omega, zMU i (i / 2) (by omega) (by omega)]
  rfl
theorem zDp (n : Int) : bits .and .i64 n 1 = n % 2 := by
  have h1 : (BitVec.ofInt 64 1).toNat = 2 ^ 1 - 1 := by decide
  have key : (BitVec.ofInt 64 n &&& BitVec.ofInt 64 1).toNat = (n % ((2 ^ 64 : Nat) : Int)).toNat % 2 ^ 1 := by
    rw [BitVec.toNat_and, BitVec.toNat_ofInt, h1, Nat.and_two_pow_sub_one_eq_mod]
  show IntKind.i64.wrap ((BitVec.ofInt 64 n &&& BitVec.ofInt 64 1).toNat : Nat) = n % 2
  rw [key, IntKind.wrap_i64]
  omega
theorem zJT (x : Nat) (hx : x < 18446744073709551616) (w : World) :
    Calls Tryz.prog 250 #[.int .u64 (x : Int)] w fun e w' => e = .returned (.int .i64 (pop x : Nat)) ∧ w = w' := by
  obtain ⟨P, hP⟩ : ∃ P, pop x = P := ⟨_, rfl⟩
  have hp := zIE x
  rw [hP] at hp ⊢
  have HC : Hid (Calls Tryz.prog 219 #[.int .u64 (x : Int)] w fun e w' => e = .returned (.int .i64 (P : Int)) ∧ w = w') := lhd (by rw [← hP]; exact zDI x hx w)
  clear hP
  go_enter Tryz.func250, Tryz.ntmps250
  go_wp2_with fail
  refine HC.out.mono ?_
  rintro e w1 ⟨rfl, rfl⟩
  go_wp2
  go_ret
  exact ⟨rfl, rfl⟩
end

section
open Go.RowKit Go.Extern.Stop Go.Stop Go.Extern
section
variable {w w' W : World}
theorem zEd {base q : Nat} {e : TypeId} {v : Value} {xs : List Value} {row : Option Nat} (h : w.ownsRow base e 1 v q xs) (hg : w.grownBy w' row) (hr : ∀ r, row = some r → ∃ o : Obj, w.heap[r]? = some o ∧ o.isCells = false) : w'.ownsRow base e 1 v q xs := by
  refine h.kept hg ?_
  rcases h.2 with ⟨rfl, _⟩ | ⟨g, cap, cur, rfl, _, hgb, _⟩
  · exact .inl rfl
  · refine .inr fun e' => ?_
    obtain ⟨o, ho, hc⟩ := hr g (by simpa [Value.ownBlock] using e'.symm)
    rw [hgb] at ho; cases ho; cases hc
theorem zCn {b : Nat} {t : TypeId} {v : Value} {row : Option Nat} (h : Boxed w b t v) (hg : w.grownBy w' row) (hr : ∀ r, row = some r → ∃ o : Obj, w.heap[r]? = some o ∧ o.isCells = false) : Boxed w' b t v :=
  h.kept hg (fun e' => by obtain ⟨o, ho, hc⟩ := hr b e'.symm; rw [show w.heap[b]? = _ from h] at ho; cases ho; cases hc)
end
end

section
open Go
section
variable {P : Program} {ops : Array Oper} {md : Region.Mode} {l d : Nat}
theorem zHO {w : World} {o : Oper} {a : Act} {K : Act → Prop} {K' : Act → World → Prop} {Q' : Exit → Act → World → Prop} (hd : ∀ c, o.op ≠ .defer c) (h : ∀ a, K a → K' a w) (hh : o.still P a w K) : o.wpIn (Fence.wide.inRound l) d P a w K' Q' := by
  refine ⟨fun _ _ => trivial, ?_⟩
  rw [show (Fence.wide.inRound l).round = some l from rfl, Oper.semAt_some l _ _ hd]
  unfold Oper.still at hh
  generalize (execOp a.eval o).run P w = r at *
  cases r with
  | ok x w' =>
    cases x <;> simp only [Oper.stillUpon] at hh
    case enter f args =>
      obtain ⟨rfl, v, hc, hn⟩ := hh
      refine And.intro (fun h => ?_) (CallsIn.inRound l ((callsIn_wide.2 hc).mono ?_))
      · simp [Fence.wide] at h
      · intro e w'' he
        obtain ⟨e1, e2⟩ := he
        subst e1
        subst e2
        exact h _ hn
    all_goals (obtain ⟨rfl, h2⟩ := hh; exact h _ h2)
  | halt x w' => simp only [Oper.stillUpon] at hh
theorem zKE {w : World} {i : Nat} {a : Act} {K : Act → Prop} {K' : Act → World → Prop} {Q' : Exit → Act → World → Prop} (hd : ∀ (j : Nat) (o : Oper), ops[j]? = some o → ∀ c, o.op ≠ .defer c) (h : ∀ a, K a → K' a w) (hh : stOp P ops w i K a) :
    wpOpIn (Fence.wide.inRound l) d P ops Q' i K' a w := by
  unfold stOp at hh
  unfold wpOpIn
  split
  · rename_i ho; simp only [ho] at hh; exact h _ hh
  · rename_i o ho
    simp only [ho] at hh
    split
    · rename_i hw; simp only [hw, if_true] at hh; exact zHO (hd _ _ ho) h hh
    · rename_i hw; simp only [hw] at hh; exact ⟨fun _ _ => trivial, h _ hh⟩
theorem zDM {w : World} {n g : Nat} {L : Array Bool → Act → Prop} {Q' : Exit → Act → World → Prop} (hd : ∀ (j : Nat) (o : Oper), ops[j]? = some o → ∀ c, o.op ≠ .defer c)
    (hL : ∀ listed a, L listed a → wpAnyIn (Fence.wide.inRound l) d P md ops Q' g listed a w) :
    ∀ (f : Nat) (listed : Array Bool) (a : Act), wpAnyL P md ops w n L f listed a → wpAnyIn (Fence.wide.inRound l) d P md ops Q' (f + g) listed a w
  | 0, listed, a, h => by rw [Nat.zero_add]; exact hL _ _ h
  | f + 1, listed, a, h => by
    rw [show f + 1 + g = (f + g) + 1 by omega]
    exact ⟨fun h0 => absurd h0 h.1, fun i hi => zKE hd (fun a' h' => zDM hd hL f _ a' h') (h.2 i hi).2⟩
theorem zLZ {F : Fence} {Q' : Exit → Act → World → Prop} : ∀ (l0 : List Oper) (k : Nat) (listed : Array Bool) (a : Act) (w : World), (∀ j, l0[j]? = ops[k + j]?) →
    Region.seqB md ops l0.length k listed = true → wpListIn F d P ops Q' l0 a w → wpAnyIn F d P md ops Q' l0.length listed a w
  | [], _, _, _, _, _, hB, h => ⟨by simpa [Region.seqB] using hB, h⟩
  | o :: l0, k, listed, a, w, hl, hB, h => by
    have h0 : ops[k]? = some o := by simpa using (hl 0).symm
    simp only [List.length_cons, Region.seqB, Bool.and_eq_true, decide_eq_true_eq] at hB
    refine ⟨fun h1 => (by rw [hB.1] at h1; cases h1), fun i hi => ?_⟩
    rw [hB.1] at hi
    have hik : i = k := by simpa using hi
    subst hik
    have hw : wpOpIn F d P ops Q' i (wpListIn F d P ops Q' l0) a w := by unfold wpOpIn; simp only [h0]; exact h
    exact wpOpIn_mono (fun a' w' h' => zLZ l0 (i + 1) _ a' w' (fun j => by have := hl (j + 1); simpa [Nat.add_assoc, Nat.add_comm 1 j] using this) hB.2 h') hw
def noDefer (l0 : List Oper) : Bool := l0.all fun o => match o.op with | .defer _ => false | _ => true
theorem zE7 {l0 : List Oper} (h : noDefer l0 = true) : ∀ (j : Nat) (o : Oper), l0.toArray[j]? = some o → ∀ c, o.op ≠ .defer c := fun j o ho c e => by
  have hm : o ∈ l0 := List.mem_of_getElem? (by simpa using ho)
  have := List.all_eq_true.1 h o hm
  simp only [e] at this
  cases this
def tailB (md : Region.Mode) (ops : Array Oper) (n : Nat) : Bool :=
  (List.range ops.size).all fun t => decide (t ≤ n) || (List.range t).any fun j => decide (n ≤ j) && Region.waitsFor md ops t j
theorem zC1 {n : Nat} {listed : Array Bool} (hs : Region.sinkB md ops n = true) (hc : tailB md ops n = true) (hn : n < ops.size) (inv : HeadInv md ops n listed) {i : Nat} (hi : i < n) (hun : listed.getD i true = false) : ∀ t, n ≤ t → t ∉ Region.ready md ops listed := by
  intro t ht hr
  obtain ⟨_, ot, hot, hall⟩ := mem_ready.1 hr
  have need : ∀ j, Region.waitsFor md ops t j = true → listed.getD j false = true := fun j hj => by
    obtain ⟨o', ho', e, he, hb, rfl⟩ := Region.waitsFor_spec hj
    obtain rfl : o' = ot := Option.some.inj (ho'.symm.trans hot)
    exact hall e he hb
  by_cases htn : t = n
  · subst htn
    have down : ∀ m k, t - k = m → k < t → listed.getD k true = false → False := by
      intro m
      induction m using Nat.strongRecOn with
      | _ m ih =>
        intro k hm hk hun
        obtain ⟨j, hj, hj2⟩ := List.any_eq_true.1 (List.all_eq_true.1 hs k (List.mem_range.2 hk))
        simp only [Bool.and_eq_true, decide_eq_true_eq] at hj2
        have hjle := List.mem_range.1 hj
        by_cases hjt : j = t
        · subst hjt
          have := need k hj2.2
          rw [getD_both hun] at this
          cases this
        · obtain ⟨oj, hoj, e, he, hb, rfl⟩ := Region.waitsFor_spec hj2.2
          refine ih (t - j) (by omega) j rfl (by omega) ?_
          cases hl : listed.getD j false with
          | false => exact getD_in (by rw [inv.size]; omega) hl
          | true =>
            have := inv.closed j oj hoj hl e he hb
            rw [getD_both hun] at this
            cases this
    exact down _ i rfl hi hun
  · have htlt : t < ops.size := (Array.getElem?_eq_some_iff.1 hot).1
    have h1 := List.all_eq_true.1 hc t (List.mem_range.2 htlt)
    rcases (Bool.or_eq_true _ _).mp h1 with h1 | h1
    · have := of_decide_eq_true h1; omega
    · obtain ⟨j, hj, hj2⟩ := List.any_eq_true.1 h1
      simp only [Bool.and_eq_true, decide_eq_true_eq] at hj2
      have hjt := List.mem_range.1 hj
      have := need j hj2.2
      rw [getD_both (inv.tail j hj2.1 (by omega))] at this
      cases this
theorem zHA {w : World} {n i : Nat} {oi : Oper} {v : Value} {L : Array Bool → Act → Prop} (hi : ops[i]? = some oi) (hsel : ∀ (j : Nat) (o : Oper) cs b, ops[j]? = some o → o.op ≠ .select cs b)
    (hs : Region.sinkB md ops n = true) (hc : tailB md ops n = true) (hn : n < ops.size) (hin : i < n) (hdone : ∀ listed a, L listed a → ∀ j ∈ Region.ready md ops listed, n ≤ j) :
    ∀ (f : Nat) (listed : Array Bool) (a : Act), HeadInv md ops n listed →
      (∀ j oj, ops[j]? = some oj → j ≠ i → listed.getD j true = false → (∀ e ∈ oj.after, Region.binds md e = true → e.on ≠ i) → oi.apart ops oj = true) →
      i ∈ Region.ready md ops listed → YieldsAt P ops w oi v a → wpAnyL P md ops w n L f (listed.setIfInBounds i true) (a.put oi.dst v) → wpAnyL P md ops w n L (f + 1) listed a := by
  intro f
  induction f with
  | zero =>
    intro listed a inv _ hr hy H
    have hun := (mem_ready.1 hr).1
    refine ⟨List.ne_nil_of_mem hr, fun j hj => ?_⟩
    have hjn : j < n := Nat.lt_of_not_le fun h => zC1 hs hc hn inv hin hun j h hj
    refine ⟨hjn, ?_⟩
    by_cases hji : j = i
    · rw [hji]; exact hy.stOp hi H
    · exact absurd (hdone _ _ H j (ready_mono hj hji)) (by omega)
  | succ f ih =>
    intro listed a inv hfree hr hy H
    have hun := (mem_ready.1 hr).1
    refine ⟨List.ne_nil_of_mem hr, fun j hj => ?_⟩
    have hjn : j < n := Nat.lt_of_not_le fun h => zC1 hs hc hn inv hin hun j h hj
    refine ⟨hjn, ?_⟩
    by_cases hji : j = i
    · rw [hji]; exact hy.stOp hi H
    · obtain ⟨hjun, oj, hoj, hall⟩ := mem_ready.1 hj
      have hnot : ∀ e ∈ oj.after, Region.binds md e = true → e.on ≠ i := fun e he hb heq => by
        have := hall e he hb
        rw [heq, getD_both hun] at this
        cases this
      have h2 := stOp_put hoj (hfree j oj hoj hji hjun hnot) (fun cs b => hsel i oi cs b hi) (fun cs b => hsel j oj cs b hoj) hy (H.2 j (ready_mono hj hji)).2
      refine stOp_mono (fun a' h3 => ih (listed.setIfInBounds j true) a' (inv.set hj hjn) (fun k ok hk hki hk2 hno => hfree k ok hk hki ?_ hno) (ready_mono hr (Ne.symm hji)) h3.1 ?_) h2
      · by_cases hjk : j = k
        · rw [← hjk]; exact hjun
        · rwa [getD_set_ne true hjk] at hk2
      · rw [Array.setIfInBounds_comm _ _ hji]
        exact h3.2
def headB (md : Region.Mode) (ops : Array Oper) (n : Nat) : Nat → Nat → Array Bool → Bool
  | 0, _, listed => decide (Region.ready md ops listed = [n])
  | f + 1, k, listed => (Region.ready md ops listed).contains k && Region.free md ops listed k && headB md ops n f (k + 1) (listed.setIfInBounds k true)
def setTo (listed : Array Bool) : Nat → Nat → Array Bool
  | 0, _ => listed
  | f + 1, k => setTo (listed.setIfInBounds k true) f (k + 1)
theorem zGX {w : World} {n : Nat} {Lq : Act → Prop} (hsel : Region.noSelect ops = true) (hs : Region.sinkB md ops n = true) (hc : tailB md ops n = true) (hn : n < ops.size) :
    ∀ (l0 : List Oper) (k : Nat) (listed : Array Bool) (a : Act), (∀ j, j < l0.length → l0[j]? = ops[k + j]?) → k + l0.length = n → HeadInv md ops n listed →
    headB md ops n l0.length k listed = true → wpStill P ops w Lq l0 a → wpAnyL P md ops w n (fun listed' a' => (Region.ready md ops listed' = [n] ∧ listed' = setTo listed l0.length k) ∧ Lq a') l0.length listed a
  | [], k, listed, a, _, hk, _, hB, h => ⟨⟨of_decide_eq_true hB, rfl⟩, h⟩
  | o :: l0, k, listed, a, hl, hk, inv, hB, h => by
    have h0 : ops[k]? = some o := by simpa using (hl 0 (by simp)).symm
    simp only [List.length_cons, headB, Bool.and_eq_true] at hB
    obtain ⟨⟨hr, hf⟩, hB'⟩ := hB
    have hkn : k < n := by simp only [List.length_cons] at hk; omega
    have hr' : k ∈ Region.ready md ops listed := by simpa using hr
    have hst : stOp P ops w k (wpStill P ops w Lq l0) a := by unfold stOp; simp only [h0]; exact h
    obtain ⟨v, hy, hK⟩ := yieldsAt_of_stOp h0 hst
    refine zHA h0 (Region.noSelect_spec hsel) hs hc hn hkn (fun listed' a' hL j hj => ?_) l0.length listed a inv (Region.free_spec h0 hf) hr' hy
      (zGX hsel hs hc hn l0 (k + 1) _ _ (fun j hj => by have := hl (j + 1) (by simp; omega); simpa [Nat.add_assoc, Nat.add_comm 1 j] using this) (by simp only [List.length_cons] at hk; omega) (inv.set hr' hkn) hB' hK)
    rw [hL.1.1] at hj
    simp at hj
    omega
theorem zDz {id : Nat} {Q : Exit → Act → World → Prop} {a : Act} {w : World} {l0 : List Oper} (n : Nat) (hm : P.follows .mixedOrders = true) (hsel : Region.noSelect l0.toArray = true) (hn : n < l0.toArray.size) (hs : Region.sinkB .any l0.toArray n = true) (hc : tailB .any l0.toArray n = true)
    (hB : headB .any l0.toArray n n 0 (Array.replicate l0.toArray.size false) = true) (hnd : noDefer l0 = true)
    (h : wpStill P l0.toArray w.drew (fun a' => wpAnyIn (Fence.wide.inRound l) d P .any l0.toArray Q (l0.toArray.size - n) (setTo (Array.replicate l0.toArray.size false) n 0) a' w.drew) (l0.take n) a) : (Code.region id l0.toArray true).wpIn (Fence.wide.inRound l) d P Q a w := by
  have hn' : n < l0.length := by simpa using hn
  have htl : (l0.take n).length = n := by simp; omega
  have inv0 : HeadInv .any l0.toArray n (Array.replicate l0.toArray.size false) :=
    ⟨by simp, fun j oj _ hl => (by rw [getD_replicate_false] at hl; cases hl), fun t _ ht => getD_in (by simpa using ht) (getD_replicate_false _ _)⟩
  have H := zGX (md := .any) hsel hs hc hn (l0.take n) 0 _ a (fun j hj => by
    have hj' : j < n := by rw [htl] at hj; exact hj
    simp [hj']) (by simpa using htl) inv0 (by rw [htl]; exact hB) h
  refine wpIn_region_any hm ?_
  have := zDM (l := l) (d := d) (Q' := Q) (g := l0.toArray.size - n) (zE7 hnd) (fun listed a' hL => by
    rw [hL.1.2, htl]
    exact hL.2) _ _ _ H
  rw [htl, show n + (l0.toArray.size - n) = l0.toArray.size by omega] at this
  exact this
end
end

section
open Go
section
variable {P : Program} {ops : Array Oper} {md : Region.Mode} {d : Nat}
theorem zFp {w : World} {o : Oper} {a : Act} {K : Act → Prop} {K' : Act → World → Prop} {Q' : Exit → Act → World → Prop} (h : ∀ a, K a → K' a w) (hh : o.still P a w K) : o.wpIn Fence.wide d P a w K' Q' := by
  refine ⟨fun _ _ => trivial, ?_⟩
  rw [show Fence.wide.round = none from rfl, Oper.semAt_none]
  unfold Oper.still at hh
  generalize (execOp a.eval o).run P w = r at *
  cases r with
  | ok x w' =>
    cases x <;> simp only [Oper.stillUpon] at hh
    case enter f args =>
      obtain ⟨rfl, v, hc, hn⟩ := hh
      refine And.intro (fun h => ?_) ((callsIn_wide.2 hc).mono ?_)
      · simp [Fence.wide] at h
      · intro e w'' he
        obtain ⟨e1, e2⟩ := he
        subst e1
        subst e2
        exact h _ hn
    all_goals (obtain ⟨rfl, h2⟩ := hh; exact h _ h2)
  | halt x w' => simp only [Oper.stillUpon] at hh
theorem zHY {w : World} {i : Nat} {a : Act} {K : Act → Prop} {K' : Act → World → Prop} {Q' : Exit → Act → World → Prop} (h : ∀ a, K a → K' a w) (hh : stOp P ops w i K a) :
    wpOpIn Fence.wide d P ops Q' i K' a w := by
  unfold stOp at hh
  unfold wpOpIn
  split
  · rename_i ho; simp only [ho] at hh; exact h _ hh
  · rename_i o ho
    simp only [ho] at hh
    split
    · rename_i hw; simp only [hw, if_true] at hh; exact zFp h hh
    · rename_i hw; simp only [hw] at hh; exact ⟨fun _ _ => trivial, h _ hh⟩
theorem zCA {w : World} {n g : Nat} {L : Array Bool → Act → Prop} {Q' : Exit → Act → World → Prop}
    (hL : ∀ listed a, L listed a → wpAnyIn Fence.wide d P md ops Q' g listed a w) :
    ∀ (f : Nat) (listed : Array Bool) (a : Act), wpAnyL P md ops w n L f listed a → wpAnyIn Fence.wide d P md ops Q' (f + g) listed a w
  | 0, listed, a, h => by rw [Nat.zero_add]; exact hL _ _ h
  | f + 1, listed, a, h => by
    rw [show f + 1 + g = (f + g) + 1 by omega]
    exact ⟨fun h0 => absurd h0 h.1, fun i hi => zHY (fun a' h' => zCA hL f _ a' h') (h.2 i hi).2⟩
theorem zA0 {id : Nat} {Q : Exit → Act → World → Prop} {a : Act} {w : World} {l0 : List Oper} (n : Nat) (hm : P.follows .mixedOrders = true) (hB : Region.lexTailB .any l0.toArray n = true)
    (h : wpStill P l0.toArray w.drew (fun a' => wpListIn Fence.wide d P l0.toArray Q (l0.drop n) a' w.drew) (l0.take n) a) : (Code.region id l0.toArray true).wpIn Fence.wide d P Q a w := by
  simp only [Region.lexTailB, Bool.and_eq_true, decide_eq_true_eq] at hB
  obtain ⟨⟨⟨⟨hsel, hn⟩, hs⟩, hc⟩, hlex⟩ := hB
  have hn' : n < l0.length := by simpa using hn
  have htl : (l0.take n).length = n := by simp; omega
  have hdl : (l0.drop n).length = l0.toArray.size - n := by simp
  have inv0 : HeadInv .any l0.toArray n (Array.replicate l0.toArray.size false) :=
    ⟨by simp, fun j oj _ hl => (by rw [getD_replicate_false] at hl; cases hl), fun t _ ht => getD_in (by simpa using ht) (getD_replicate_false _ _)⟩
  have H := wpAnyL_lex (md := .any) (g := l0.toArray.size - n) hsel hs hc hn (l0.take n) 0 _ a (fun j hj => by
    have hj' : j < n := by rw [htl] at hj; exact hj
    simp [hj']) (by simpa using htl) inv0 (by rw [htl]; exact hlex) h
  refine wpIn_region_any hm ?_
  have := zCA (d := d) (Q' := Q) (g := l0.toArray.size - n) (fun listed a' hL => by
    have := zLZ (F := Fence.wide) (d := d) (md := .any) (Q' := Q) (l0.drop n) n listed a' w.drew (fun j => by simp [List.getElem?_drop]) (by rw [hdl]; exact hL.1) hL.2
    rwa [hdl] at this) _ _ _ H
  rw [htl, show n + (l0.toArray.size - n) = l0.toArray.size by omega] at this
  exact this
theorem zJ3 {Q : Exit → Act → World → Prop} {a : Act} {w : World} {o : Oper} {rest : List Oper} (hw : Region.wanted o (yielded ops a.tmps) = false) (h : wpListIn Fence.wide d P ops Q rest (a.put o.dst undef) w) : wpListIn Fence.wide d P ops Q (o :: rest) a w := by
  simp only [wpListIn, hw]
  exact ⟨fun _ _ => trivial, h⟩
end
end
end Go.Proofs.YtkfimdpcadbcpaaGreatDoor
