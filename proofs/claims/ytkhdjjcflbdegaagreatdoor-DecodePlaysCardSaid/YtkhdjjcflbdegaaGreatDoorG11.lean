import Derived.Test.YtkhdjjcflbdegaaGreatDoorG08
import Derived.OwnWalk
import Derived.WalkSpells
import Derived.WalkLawsBesides
import Derived.Deep.LoopGhost
import Derived.Test.YtkhdjjcflbdegaaGreatDoorG04
import Derived.Test.YtkhdjjcflbdegaaGreatDoorG13
import Derived.Deep.AppendLies
import Derived.Deep.RegionLaw
import Derived.Maps.AppendAt
import Derived.Test.YtkhdjjcflbdegaaGreatDoorG07

section
/- Package geyserref02: Unpack. -/
namespace Go.Proofs.YtkhdjjcflbdegaaGreatDoor
open Go.RowKit Go.Extern.Stop Go.Stop Go.Extern

def colV (c : Nat) : Value := .int .i64 (c : Int)

theorem ListAt.cols {w : World} {v : Value} {l : List Nat} (h : ListAt colV w v l) : ListAt intV w v (l.map Int.ofNat) := by
  obtain ⟨a, cap, rfl, hc, hm, h⟩ := h
  refine ⟨a, cap, by simp, by simpa using hc, hm, fun hp => ?_⟩
  obtain ⟨b, off, rfl, hcell⟩ := h (by simpa using hp)
  refine ⟨b, off, rfl, fun j hj => ?_⟩
  rw [hcell j (by simpa using hj)]
  simp [intV, colV]

end Go.Proofs.YtkhdjjcflbdegaaGreatDoor
end

section
/- Package precode: the closure that adds a place to a row; rows of the call's own in blocks of their own. -/
namespace Go.Proofs.YtkhdjjcflbdegaaGreatDoor
open Go.RowKit Go.Extern.Stop Go.Stop Go.Extern

theorem info_ints : (Tryz.prog.info? 55).map (fun i => (i.zero, i.size, i.bytes)) = some (some (.slice none 0 0), 1, 24) := by kernel_rfl

/-- n rows of the call's own: a block of their headers, behind a box; each row in a block of its own. -/
structure RowsM (W : World) (B bx G n : Nat) (vs : Nat → Value) (f : Nat → List Nat) : Prop where
  box : W.heap[bx]? = some (.cells #[.slice (some ⟨G, 0, none⟩) n n] 91 (0, 0))
  own : W.ownsRow B 55 1 (.slice (some ⟨G, 0, none⟩) n n) n ((List.range n).map vs)
  row : ∀ r, r < n → W.ownsRow B 3 1 (vs r) (f r).length ((f r).map colV)
  dist : ∀ r s, r < n → s < n → r ≠ s → (vs r).ownBlock = none ∨ (vs r).ownBlock ≠ (vs s).ownBlock
  le : B ≤ bx

section
variable {W W' : World} {B bx G n : Nat} {vs : Nat → Value} {f g : Nat → List Nat}
theorem RowsM.congr (h : RowsM W B bx G n vs f) (e : ∀ r, r < n → f r = g r) : RowsM W B bx G n vs g := ⟨h.box, h.own, fun r hr => by rw [← e r hr]; exact h.row r hr, h.dist, h.le⟩
theorem RowsM.mono (h : RowsM W B bx G n vs f) (hb : Below W.heap.size W W') : RowsM W' B bx G n vs f :=
  ⟨(hb.block bx (Array.getElem?_eq_some_iff.1 h.box).1).trans h.box, owns_kept h.own hb, fun r hr => owns_kept (h.row r hr) hb, h.dist, h.le⟩
theorem RowsM.gheap (h : RowsM W B bx G n vs f) : B ≤ G ∧ ∃ cur, W.heap[G]? = some (.cells cur 55 (0, 0)) := by
  obtain ⟨h1, h2, h3⟩ := own_full h.own
  exact ⟨h1, _, h3⟩
theorem RowsM.ne_box (h : RowsM W B bx G n vs f) {r : Nat} (hr : r < n) : (vs r).ownBlock ≠ some bx := by
  intro e
  rcases (h.row r hr).2 with ⟨e1, _⟩ | ⟨g', cap, cur, e1, _, hg, _⟩
  · rw [e1] at e; cases e
  · rw [e1] at e
    have : g' = bx := by simpa [Value.ownBlock] using e
    rw [this, h.box] at hg
    simp at hg
theorem RowsM.ne_heads (h : RowsM W B bx G n vs f) {r : Nat} (hr : r < n) : (vs r).ownBlock ≠ some G := by
  obtain ⟨-, cu, hG⟩ := h.gheap
  intro e
  rcases (h.row r hr).2 with ⟨e1, _⟩ | ⟨g', cap, cur, e1, _, hg, _⟩
  · rw [e1] at e; cases e
  · rw [e1] at e
    have : g' = G := by simpa [Value.ownBlock] using e
    rw [this, hG] at hg
    simp at hg
theorem RowsM.bG (h : RowsM W B bx G n vs f) : bx ≠ G := by
  obtain ⟨-, cu, hG⟩ := h.gheap
  intro e
  have := h.box
  rw [e, hG] at this
  simp at this
theorem RowsM.slice (h : RowsM W B bx G n vs f) {r : Nat} (hr : r < n) : ∃ a cap, vs r = .slice a (f r).length cap := by
  rcases (h.row r hr).2 with ⟨e1, e2⟩ | ⟨g', cap, cur, e1, _⟩
  · exact ⟨none, 0, by rw [e1, e2]⟩
  · exact ⟨_, cap, e1⟩
theorem RowsM.head (h : RowsM W B bx G n vs f) {r : Nat} (hr : r < n) : W.cell? ⟨G, r, none⟩ = some (vs r) := by
  rw [h.own.cellAt r (by omega)]
  simp [hr]
/-- The rows behind an append to row r and the store of its header. -/
theorem RowsM.add (h : RowsM W B bx G n vs f) {r x g cap : Nat} (hr : r < n) (hown : W'.ownsRow B 3 1 (.slice (some ⟨g, 0, none⟩) ((f r).length + 1) cap) ((f r).length + 1) ((f r).map colV ++ [colV x]))
    (hg : W.grownBy W' (vs r).ownBlock) (hat : (vs r).ownBlock = some g ∨ W.heap.size ≤ g) :
    RowsM (W'.setCell ⟨G, r, none⟩ (.slice (some ⟨g, 0, none⟩) ((f r).length + 1) cap)) B bx G n (fun d => if d = r then .slice (some ⟨g, 0, none⟩) ((f r).length + 1) cap else vs d) (addAt f r x) := by
  obtain ⟨hBG, cu, hG⟩ := h.gheap
  have hneG : g ≠ G := by
    rcases hat with hat | hat
    · intro e; subst e; exact h.ne_heads hr hat
    · have := (Array.getElem?_eq_some_iff.1 hG).1; omega
  have hG' : W'.heap[G]? = some (.cells cu 55 (0, 0)) := (hg.block G (Array.getElem?_eq_some_iff.1 hG).1 (fun e => h.ne_heads hr e.symm)).trans hG
  have hown1 : W'.ownsRow B 55 1 (.slice (some ⟨G, 0, none⟩) n n) n ((List.range n).map vs) := h.own.kept hg (.inr (fun e => h.ne_heads hr e.symm))
  obtain ⟨s1, s2⟩ := hown1.stored r (.slice (some ⟨g, 0, none⟩) ((f r).length + 1) cap)
  have hkeep : ∀ {v : Value} {q : Nat} {xs : List Value} {B' : Nat}, W'.ownsRow B' 3 1 v q xs → (W'.setCell ⟨G, r, none⟩ (.slice (some ⟨g, 0, none⟩) ((f r).length + 1) cap)).ownsRow B' 3 1 v q xs := fun {v q xs B'} ho => by
    refine ho.kept s2 (.inr fun e => ?_)
    rcases ho.2 with ⟨rfl, _⟩ | ⟨g', c', cur, rfl, _, hg', _⟩
    · simp [Value.ownBlock] at e
    · have : g' = G := by simpa [Value.ownBlock] using e
      rw [this, hG'] at hg'
      simp at hg'
  refine ⟨?_, ?_, fun d hd => ?_, fun d e hd he hde => ?_, h.le⟩
  · rw [Below.heap_setCell _ _ _ _ h.bG, hg.block bx (Array.getElem?_eq_some_iff.1 h.box).1 (fun e => h.ne_box hr e.symm)]
    exact h.box
  · have e : (List.range n).map (fun d => if d = r then Value.slice (some ⟨g, 0, none⟩) ((f r).length + 1) cap else vs d) = ((List.range n).map vs).set r (.slice (some ⟨g, 0, none⟩) ((f r).length + 1) cap) := by
      apply List.ext_getElem
      · simp
      · intro i a1 a2
        simp only [List.getElem_map, List.getElem_range, List.getElem_set]
        by_cases ei : i = r
        · subst ei; simp
        · rw [if_neg ei, if_neg (fun h => ei h.symm)]
    rw [e]; exact s1
  · by_cases ed : d = r
    · subst ed
      unfold addAt
      rw [if_pos rfl, if_pos rfl, List.length_append, List.map_append]
      exact hkeep hown
    · unfold addAt
      rw [if_neg ed, if_neg ed]
      refine hkeep ((h.row d hd).kept hg ?_)
      exact h.dist d r hd hr ed
  · have key : ∀ e, e < n → e ≠ r → (vs e).ownBlock = none ∨ (vs e).ownBlock ≠ some g := fun e he her => by
      rcases hat with hat | hat
      · rw [← hat]; exact h.dist e r he hr her
      · right
        intro e'
        have := ((h.row e he).lt g e').2
        omega
    by_cases ed : d = r
    · subst ed
      rw [if_pos rfl, if_neg (fun h => hde h.symm)]
      rcases key e he (fun h => hde h.symm) with k | k
      · right; rw [k]; simp [Value.ownBlock]
      · right; intro e'; exact k e'.symm
    · rw [if_neg ed]
      by_cases ee : e = r
      · subst ee
        rw [if_pos rfl]
        exact key d hd ed
      · rw [if_neg ee]
        exact h.dist d e hd he hde
/-- All rows as a list. -/
theorem RowsM.at (h : RowsM W B bx G n vs f) : MatAt colV W (.slice (some ⟨G, 0, none⟩) n n) ((List.range n).map f) := by
  refine ⟨(List.range n).map vs, ListAt.of_owns (f := id) (by rw [List.map_id]; exact h.own), by simp, fun i => ?_⟩
  by_cases hi : i < n
  · simpa [hi] using ListAt.of_owns (h.row i hi)
  · rw [List.getD_eq_getElem?_getD, List.getD_eq_getElem?_getD, List.getElem?_eq_none (by simp; omega), List.getElem?_eq_none (by simp; omega)]
    exact ListAt.nil _ _
end

set_option maxRecDepth 1000000 in
set_option maxHeartbeats 4000000 in
theorem padd_any {w : World} (B bx G n r x : Nat) (vs : Nat → Value) (f : Nat → List Nat) (h : RowsM w B bx G n vs f) (hr : r < n) (hl : ∀ d, (f d).length ≤ 100000) (hB : B ≤ w.heap.size) :
    Calls Tryz.prog 138 #[.int .i64 (r : Int), .int .i64 (x : Int), .pointer (some ⟨bx, 0, none⟩)] w fun e w' => (∃ v, e = .returned v) ∧ (∃ vs', RowsM w' B bx G n vs' (addAt f r x) ∧ (∀ b, b < w.heap.size → b ≠ G → (∀ d, d < n → (vs d).ownBlock ≠ some b) → w'.heap[b]? = w.heap[b]? ∧ ∀ d, d < n → (vs' d).ownBlock ≠ some b)) ∧ Below B w w' := by
  obtain ⟨i0, hi0, hz0, hz1, hz2⟩ := info_parts info_int
  have hb0 := cell_of_heap (j := 0) (u := .slice (some ⟨G, 0, none⟩) n n) h.box rfl
  have hrow := h.head hr
  have hfr : w.frozen? ⟨G, r, none⟩ = false := h.own.frozenAt r
  obtain ⟨a, cap, hv⟩ := h.slice hr
  have hlr := hl r
  have HM := Lib.hid h
  have HV := Lib.hid hv
  rw [hv] at hrow
  have HO := Lib.hid (h.row r hr)
  have HEND : Hid (∀ (g c : Nat) (w2 : World), w2.ownsRow B 3 1 (.slice (some ⟨g, 0, none⟩) ((f r).length + 1) c) ((f r).length + 1) ((f r).map colV ++ [colV x]) → ((w.alloc (.cells #[.int .i64 (x : Int)] 3)).drew).grownBy w2 (vs r).ownBlock → ((vs r).ownBlock = some g ∨ g = w.heap.size + 1) →
      ((∃ vs', RowsM (w2.setCell ⟨G, r, none⟩ (.slice (some ⟨g, 0, none⟩) ((f r).length + 1) c)) B bx G n vs' (addAt f r x) ∧ (∀ b, b < w.heap.size → b ≠ G → (∀ d, d < n → (vs d).ownBlock ≠ some b) → (w2.setCell ⟨G, r, none⟩ (.slice (some ⟨g, 0, none⟩) ((f r).length + 1) c)).heap[b]? = w.heap[b]? ∧ ∀ d, d < n → (vs' d).ownBlock ≠ some b)) ∧ Below B w (w2.setCell ⟨G, r, none⟩ (.slice (some ⟨g, 0, none⟩) ((f r).length + 1) c))) ∧
      w2.cell? ⟨bx, 0, none⟩ = some (.slice (some ⟨G, 0, none⟩) n n) ∧ w2.cell? ⟨G, r, none⟩ = some (.slice a (f r).length cap) ∧ w2.frozen? ⟨G, r, none⟩ = false) :=
    Lib.hid fun g c w2 h1 h2 h3 => by
      have hbel : Below w.heap.size w ((w.alloc (.cells #[.int .i64 (x : Int)] 3)).drew) := ((Below.refl _ _).alloc (Nat.le_refl _) _).drew
      have h' := h.mono hbel
      refine ⟨⟨⟨_, h'.add hr h1 h2 (h3.imp id (fun e => by simp; omega)), fun b hb hbG hbv => ⟨?_, fun d hd => ?_⟩⟩, ((hbel.mono hB).grown h2 (by simp; omega) (fun k hk => ((h'.row r hr).lt k hk).1)).setCell (p := ⟨G, r, none⟩) h.gheap.1 _⟩, ?_, ?_, ?_⟩
      · rw [Below.heap_setCell _ _ _ _ hbG, h2.block b (by simp; omega) (fun e => hbv r hr e.symm)]
        exact hbel.block b hb
      · by_cases ed : d = r
        · rw [if_pos ed]
          intro e
          have e' : g = b := by simpa [Value.ownBlock] using e
          rcases h3 with h3 | h3
          · exact hbv r hr (by rw [← e']; exact h3)
          · omega
        · rw [if_neg ed]; exact hbv d hd
      · exact cell_of_heap ((h2.block bx (Array.getElem?_eq_some_iff.1 h'.box).1 (fun e => h'.ne_box hr e.symm)).trans h'.box) rfl
      · rw [World.cell?_of_block (w := (w.alloc (.cells #[.int .i64 (x : Int)] 3)).drew) (a := ⟨G, r, none⟩) (h2.block G (h'.own.lt G rfl).2 (fun e => h'.ne_heads hr e.symm)), h'.head hr, hv]
      · rw [World.frozen?_of_block (w := (w.alloc (.cells #[.int .i64 (x : Int)] 3)).drew) (a := ⟨G, r, none⟩) (h2.block G (h'.own.lt G rfl).2 (fun e => h'.ne_heads hr e.symm))]
        exact h'.own.frozenAt r
  have HO2 : Hid (((w.alloc (.cells #[.int .i64 (x : Int)] 3)).drew).ownsRow B 3 1 (vs r) (f r).length ((f r).map colV)) := Lib.hid ((h.mono (((Below.refl _ _).alloc (Nat.le_refl _) _).drew)).row r hr)
  have hb0a := (h.mono ((Below.refl _ _).alloc (Nat.le_refl _) (.cells #[.int .i64 (x : Int)] 3))).box
  have hb0a := cell_of_heap (j := 0) (u := .slice (some ⟨G, 0, none⟩) n n) hb0a rfl
  have hrowa := (h.mono ((Below.refl _ _).alloc (Nat.le_refl _) (.cells #[.int .i64 (x : Int)] 3))).head hr
  have hfra : (w.alloc (.cells #[.int .i64 (x : Int)] 3)).frozen? ⟨G, r, none⟩ = false := (h.mono ((Below.refl _ _).alloc (Nat.le_refl _) (.cells #[.int .i64 (x : Int)] 3))).own.frozenAt r
  rw [hv] at HO2
  rw [hv] at HEND
  rw [hv] at hrowa
  clear h hv hl
  generalize (f r).length = q at *
  generalize (f r).map colV = Q at *
  go_enter Tryz.func138, Tryz.ntmps138
  go_wp2_with fail
  go_region_law (first
    | (refine step_append_lies _ rfl (.tmp 10) (.tmp 12) 55 rfl B 3 i0 (.int .i64 0) 1 8 Tryz.underlying55 hi0 hz0 hz1 hz2 rfl (by decide) (.slice a q cap) q Q (by simp [Act.eval]) HO2.out ⟨w.heap.size, 0, none⟩ 1 1 [.int .i64 (x : Int)] (by simp [Act.eval]) rfl (fun j u hu => cell_one_new w _ _ j u hu) (fun x hx => by simp at hx; subst hx; rfl) (by decide) (by unfold maxLen; omega) (by omega) (by simp; omega) (w.heap.size + 1) (by simp) ?_; intro g2 c2 w2 hown1 hgrow1 hat1 _; obtain ⟨⟨hE1, hE2⟩, hc1, hc2, hc3⟩ := HEND.out g2 c2 w2 hown1 hgrow1 hat1; have HE1 := Lib.hid hE1; have HE2 := Lib.hid hE2; clear hown1 hgrow1 hat1 hE1 hE2))
  all_goals
    go_wp2
    go_end0
    exact ⟨⟨_, rfl⟩, HE1.out, HE2.out⟩
end Go.Proofs.YtkhdjjcflbdegaaGreatDoor
end

section
/- Package precode and the document's: bits of a number; the numbers of one weight, gone over. -/
namespace Go.Proofs.YtkhdjjcflbdegaaGreatDoor
open Go.RowKit Go.Extern.Stop Go.Stop Go.Extern

theorem xor_i64 (a b : Nat) (ha : a < 4611686018427387904) (hb : b < 4611686018427387904) : bits .xor .i64 (a : Int) (b : Int) = ((a ^^^ b : Nat) : Int) := by
  have hx : a ^^^ b < 2 ^ 62 := Nat.xor_lt_two_pow (by omega) (by omega)
  have h1 : (BitVec.ofInt 64 (a : Int)).toNat = a := by
    rw [BitVec.ofInt_natCast, BitVec.toNat_ofNat]; exact Nat.mod_eq_of_lt (by omega)
  have h2 : (BitVec.ofInt 64 (b : Int)).toNat = b := by
    rw [BitVec.ofInt_natCast, BitVec.toNat_ofNat]; exact Nat.mod_eq_of_lt (by omega)
  show IntKind.i64.wrap ((BitVec.ofInt 64 (a : Int) ^^^ BitVec.ofInt 64 (b : Int)).toNat : Int) = _
  rw [BitVec.toNat_xor, h1, h2, IntKind.wrap_i64]
  omega
theorem xor_gry {i : Nat} (h : i < 1048576) : bits .xor .i64 (i : Int) ((i : Int) / 2) = ((gry i : Nat) : Int) := by
  rw [show ((i : Int) / 2) = ((i / 2 : Nat) : Int) by omega, xor_i64 i (i / 2) (by omega) (by omega)]
  rfl
theorem and_one_i64 (n : Int) : bits .and .i64 n 1 = n % 2 := by
  have h1 : (BitVec.ofInt 64 1).toNat = 2 ^ 1 - 1 := by decide
  have key : (BitVec.ofInt 64 n &&& BitVec.ofInt 64 1).toNat = (n % ((2 ^ 64 : Nat) : Int)).toNat % 2 ^ 1 := by
    rw [BitVec.toNat_and, BitVec.toNat_ofInt, h1, Nat.and_two_pow_sub_one_eq_mod]
  show IntKind.i64.wrap ((BitVec.ofInt 64 n &&& BitVec.ofInt 64 1).toNat : Nat) = n % 2
  rw [key, IntKind.wrap_i64]
  omega

set_option maxRecDepth 1000000 in
theorem OnesC_any (x : Nat) (hx : x < 18446744073709551616) (w : World) :
    Calls Tryz.prog 162 #[.int .u64 (x : Int)] w fun e w' => e = .returned (.int .i64 (pop x : Nat)) ∧ w = w' := by
  obtain ⟨P, hP⟩ : ∃ P, pop x = P := ⟨_, rfl⟩
  have hp := pop_le x
  rw [hP] at hp ⊢
  have HC : Hid (Calls Tryz.prog 122 #[.int .u64 (x : Int)] w fun e w' => e = .returned (.int .i64 (P : Int)) ∧ w = w') := Lib.hid (by rw [← hP]; exact Ones64_any x hx w)
  clear hP
  go_enter Tryz.func162, Tryz.ntmps162
  go_wp2_with fail
  refine HC.out.mono ?_
  rintro e w1 ⟨rfl, rfl⟩
  go_wp2
  go_ret
  exact ⟨rfl, rfl⟩

set_option maxRecDepth 1000000 in
theorem ones_any {w : World} (x : Nat) (hx : x < 4611686018427387904) :
    Calls Tryz.prog 130 #[.int .i64 (x : Int)] w fun e w' => e = .returned (.int .i64 ((pop x : Nat) : Int)) ∧ w = w' := by
  have hp := pop_le x
  obtain ⟨P, hP⟩ : ∃ P, pop x = P := ⟨_, rfl⟩
  rw [hP] at hp ⊢
  have HP := Lib.hid hP
  clear hP
  go_enter Tryz.func130, Tryz.ntmps130
  go_wp2
  go_loopw [0, 3] (fun n k wr => ∃ m j : Nat, n = .int .i64 m ∧ k = .int .i64 j ∧ m < 4611686018427387904 ∧ j + pop m = P ∧ w = wr) (fun n _ _ => (intOf n).toNat)
  case atStart => exact ⟨x, 0, rfl, rfl, hx, by rw [HP.out]; omega, rfl⟩
  case round =>
    obtain ⟨m, j, rfl, rfl, hm, hj, rfl⟩ := hrel
    have hjP : j ≤ P := by omega
    by_cases h0 : 0 < m
    · have HS : Hid (j + m % 2 + pop (m / 2) = P) := Lib.hid (by rw [← hj, pop_step (x := m) (by omega)]; omega)
      have d1 : decide ((0 : Int) < (m : Int)) = true := decide_eq_true (by omega)
      clear hj
      go_wp2
      go_roundw
      case rel => exact ⟨m / 2, j + m % 2, by go_num, by go_num, by omega, HS.out, trivial⟩
      case measure => simp [intOf]; omega
    · obtain rfl : m = 0 := by omega
      rw [pop_zero] at hj
      have HJ : Hid (j = P) := Lib.hid (by omega)
      clear hj
      go_wp2
      go_ret
      exact ⟨by rw [HJ.out]; rfl, rfl⟩

set_option maxRecDepth 1000000 in
set_option maxHeartbeats 1000000 in
theorem rGray_any {w : World} (wt n : Nat) (_hwt : wt ≤ 16) (hn : n ≤ 100000) :
    Calls Tryz.prog 110 #[.int .i64 (wt : Int), .int .i64 (n : Int)] w fun e w' => ∃ v l, e = .returned v ∧ IsGr wt n l ∧ ListAt colV w' v l ∧ Below w.heap.size w w' := by
  obtain ⟨i0, hi, hz0, hz1, hz2⟩ := info_parts info_int
  go_enter Tryz.func110, Tryz.ntmps110
  go_wp2
  go_loopw [5, 6] (fun v i wr => ∃ (k q : Nat) (l : List Nat), k ≤ 1048576 ∧ i = .int .i64 k ∧ l = graysTo wt k ∧ l.length = q ∧ q ≤ n ∧ wr.ownsRow w.heap.size 3 1 v q (l.map colV) ∧ Below w.heap.size w wr) (fun _ i _ => 1048576 - (intOf i).toNat)
  case atStart => exact ⟨0, 0, [], by omega, rfl, rfl, rfl, by omega, World.ownsRow_made (base := w.heap.size) (e := 3) (size := 1) w #[] 0 (Nat.le_refl _) (by decide) rfl, (Below.refl _ _).alloc (Nat.le_refl _) _⟩
  case round =>
    obtain ⟨k, q, l, hk, rfl, hl, hlq, hqn, hown, hbel⟩ := hrel
    have hsz := hbel.size
    have HL := Lib.hid hl
    have HQ := Lib.hid hlq
    have HO := Lib.hid hown
    have HB := Lib.hid hbel
    obtain ⟨ao, co, rfl, -, -⟩ := own_open hown
    clear hl hlq hown hbel
    by_cases hlt : k < 1048576 ∧ q < n
    · obtain ⟨hlt, hqlt⟩ := hlt
      have HX := xor_gry hlt
      have hgl : gry k < 1048576 := gry_lt (n := 20) (by omega)
      have d1 : decide ((k : Int) < 1048576) = true := decide_eq_true (by omega)
      have d2 : decide ((q : Int) < (n : Int)) = true := decide_eq_true (by omega)
      have d3 : decide (q < n) = true := decide_eq_true (by omega)
      have hpp := pop_le (gry k)
      by_cases hp : pop (gry k) = wt
      · have HS := Lib.hid (graysTo_one hp)
        have HP := Lib.hid hp
        generalize gry k = g at *
        clear hp
        go_wp2_with fail
        refine (ones_any g (by omega)).mono ?_
        rintro e w1 ⟨rfl, rfl⟩
        rw [HP.out]
        have hb : ((wt : Int) == (wt : Int)) = true := by simp
        go_wp2_with (at_builtin; refine wpList_append_own _ rfl (.tmp 27) (.tmp 29) 55 rfl w.heap.size 3 i0 (.int .i64 0) 1 8 Tryz.underlying55 hi hz0 hz1 hz2 rfl (by decide) (.slice ao q co) q (l.map colV) rfl (HO.out.alloc _) ⟨wr.heap.size, 0, none⟩ 1 1 [.int .i64 (g : Int)] rfl rfl (cell_one_new _ _ _) (fun x hx => by simp at hx; subst hx; rfl) (by unfold maxLen; omega) (by omega) (by simp; omega) ?_; intro v2 w2 hown1 hgrow1 _; have hb2 := Lib.hid ((HB.out.alloc hsz _).grown hgrow1 (by simp; omega) (fun k hk => (HO.out.lt k hk).1)); have ho2 := Lib.hid hown1; clear hown1 hgrow1)
        go_roundw
        case rel => exact ⟨k + 1, q + 1, l ++ [g], by omega, by go_num, by rw [HS.out, ← HL.out], by rw [List.length_append, HQ.out]; rfl, by omega, by rw [List.map_append]; exact ho2.out, hb2.out⟩
        case measure => simp [intOf]; omega
      · have HS := Lib.hid (graysTo_none hp)
        have hb : (((pop (gry k) : Nat) : Int) == (wt : Int)) = false := by simpa using fun h => hp (by omega)
        generalize gry k = g at *
        clear hp
        go_wp2_with fail
        refine (ones_any g (by omega)).mono ?_
        rintro e w1 ⟨rfl, rfl⟩
        generalize pop g = P at *
        go_wp2
        go_roundw
        case rel => exact ⟨k + 1, q, l, by omega, by go_num, by rw [HS.out, ← HL.out], HQ.out, by omega, HO.out, HB.out⟩
        case measure => simp [intOf]; omega
    · have HE : Hid (IsGr wt n l) := Lib.hid ⟨k, hk, HL.out, by rw [HQ.out]; exact hqn, by rw [HQ.out]; omega⟩
      by_cases h1 : k < 1048576
      · have d1 : decide ((k : Int) < 1048576) = true := decide_eq_true (by omega)
        have d2 : decide ((q : Int) < (n : Int)) = false := decide_eq_false (by omega)
        have d3 : decide (q < n) = false := decide_eq_false (by omega)
        go_wp2
        go_ret
        exact ⟨_, l, rfl, HE.out, ListAt.of_owns HO.out, HB.out⟩
      · have d1 : decide ((k : Int) < 1048576) = false := decide_eq_false (by omega)
        go_wp2
        go_ret
        exact ⟨_, l, rfl, HE.out, ListAt.of_owns HO.out, HB.out⟩
end Go.Proofs.YtkhdjjcflbdegaaGreatDoor
end
