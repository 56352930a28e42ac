import Derived.Test.YtkfimdpcadbcpaaGreatDoorA07
import Derived.Test.YtkfimdpcadbcpaaGreatDoorA02
import Derived.Test.YtkfimdpcadbcpaaGreatDoorA01
import Derived.Test.YtkfimdpcadbcpaaGreatDoorA03
import Derived.Deep.RegionHeld3
import Derived.Deep.Cut
import Derived.BigQuiet
set_option linter.unusedSimpArgs false
set_option linter.unusedVariables false
set_option maxRecDepth 1000000
set_option maxHeartbeats 8000000
namespace Go.Proofs.YtkfimdpcadbcpaaGreatDoor
section
open Go.RowKit Go.Extern.Stop Go.Stop Go.Extern
theorem zK4 : (Tryz.prog.info? 96).map (fun i => (i.zero, i.size, i.bytes)) = some (some (.slice none 0 0), 1, 24) := by kernel_rfl
structure RowsV (W : World) (B G n : Nat) (hv : Nat → Value) (f : Nat → List Value) : Prop where
  own : W.ownsRow B 96 1 (.slice (some ⟨G, 0, none⟩) n n) n ((List.range n).map hv)
  row : ∀ r, r < n → W.ownsRow B 31 1 (hv r) (f r).length (f r)
  dist : ∀ r s, r < n → s < n → r ≠ s → (hv r).ownBlock = none ∨ (hv r).ownBlock ≠ (hv s).ownBlock
theorem zGC {w w' : World} {e : TypeId} {v : Value} {k base size : Nat} {xs : List Value} (h : w.ownsRow base e size v k xs) (hs : ∀ g, base ≤ g → g < w.heap.size → w'.heap[g]? = w.heap[g]?) : w'.ownsRow base e size v k xs := by
  refine ⟨h.1, ?_⟩
  rcases h.2 with h1 | ⟨g, cap, cur, h1, h2, h3, h4⟩
  · exact .inl h1
  · exact .inr ⟨g, cap, cur, h1, h2, by rw [hs g h2 (Array.getElem?_eq_some_iff.1 h3).1]; exact h3, h4⟩
section
variable {W W' : World} {B G n : Nat} {hv : Nat → Value} {f f' : Nat → List Value}
theorem RowsV.congr (h : RowsV W B G n hv f) (e : ∀ r, r < n → f r = f' r) : RowsV W B G n hv f' := ⟨h.own, fun r hr => by rw [← e r hr]; exact h.row r hr, h.dist⟩
theorem RowsV.mono (h : RowsV W B G n hv f) (hb : Below W.heap.size W W') : RowsV W' B G n hv f :=
  ⟨zAh h.own hb, fun r hr => zAh (h.row r hr) hb, h.dist⟩
theorem RowsV.far (h : RowsV W B G n hv f) (hs : ∀ g, B ≤ g → g < W.heap.size → W'.heap[g]? = W.heap[g]?) : RowsV W' B G n hv f :=
  ⟨zGC h.own hs, fun r hr => zGC (h.row r hr) hs, h.dist⟩
theorem RowsV.gheap (h : RowsV W B G n hv f) : B ≤ G ∧ ∃ cur, W.heap[G]? = some (.cells cur 96 (0, 0)) := by
  obtain ⟨h1, h2, h3⟩ := zAQ h.own
  exact ⟨h1, _, h3⟩
theorem RowsV.ne_heads (h : RowsV W B G n hv f) {r : Nat} (hr : r < n) : (hv r).ownBlock ≠ some G := by
  obtain ⟨-, cu, hG⟩ := h.gheap
  intro e
  rcases (h.row r hr).2 with ⟨e1, _⟩ | ⟨g', cap, cur, e1, _, hg, _⟩
  · rw [e1] at e; cases e
  · rw [e1] at e
    have : g' = G := by simpa [Value.ownBlock] using e
    rw [this, hG] at hg
    simp at hg
theorem RowsV.slice (h : RowsV W B G n hv f) {r : Nat} (hr : r < n) : ∃ a cap, hv r = .slice a (f r).length cap := by
  rcases (h.row r hr).2 with ⟨e1, e2⟩ | ⟨g', cap, cur, e1, _⟩
  · exact ⟨none, 0, by rw [e1, e2]⟩
  · exact ⟨_, cap, e1⟩
theorem RowsV.head (h : RowsV W B G n hv f) {r : Nat} (hr : r < n) : W.cell? ⟨G, r, none⟩ = some (hv r) := by
  rw [h.own.cellAt r (by omega)]
  simp [hr]
theorem RowsV.add (h : RowsV W B G n hv f) {r g cap : Nat} {x : Value} (hr : r < n) (hown : W'.ownsRow B 31 1 (.slice (some ⟨g, 0, none⟩) ((f r).length + 1) cap) ((f r).length + 1) (f r ++ [x]))
    (hg : W.grownBy W' (hv r).ownBlock) (hat : (hv r).ownBlock = some g ∨ W.heap.size ≤ g) :
    RowsV (W'.setCell ⟨G, r, none⟩ (.slice (some ⟨g, 0, none⟩) ((f r).length + 1) cap)) B G n (fun d => if d = r then .slice (some ⟨g, 0, none⟩) ((f r).length + 1) cap else hv d) (fun d => if d = r then f r ++ [x] else f d) := by
  obtain ⟨hBG, cu, hG⟩ := h.gheap
  have hneG : g ≠ G := by
    rcases hat with hat | hat
    · intro e; subst e; exact h.ne_heads hr hat
    · have := (Array.getElem?_eq_some_iff.1 hG).1; omega
  have hG' : W'.heap[G]? = some (.cells cu 96 (0, 0)) := (hg.block G (Array.getElem?_eq_some_iff.1 hG).1 (fun e => h.ne_heads hr e.symm)).trans hG
  have hown1 : W'.ownsRow B 96 1 (.slice (some ⟨G, 0, none⟩) n n) n ((List.range n).map hv) := h.own.kept hg (.inr (fun e => h.ne_heads hr e.symm))
  obtain ⟨s1, s2⟩ := hown1.stored r (.slice (some ⟨g, 0, none⟩) ((f r).length + 1) cap)
  have hkeep : ∀ {v : Value} {q : Nat} {xs : List Value} {B' : Nat}, W'.ownsRow B' 31 1 v q xs → (W'.setCell ⟨G, r, none⟩ (.slice (some ⟨g, 0, none⟩) ((f r).length + 1) cap)).ownsRow B' 31 1 v q xs := fun {v q xs B'} ho => by
    refine ho.kept s2 (.inr fun e => ?_)
    rcases ho.2 with ⟨rfl, _⟩ | ⟨g', c', cur, rfl, _, hg', _⟩
    · simp [Value.ownBlock] at e
    · have : g' = G := by simpa [Value.ownBlock] using e
      rw [this, hG'] at hg'
      simp at hg'
  refine ⟨?_, fun d hd => ?_, fun d e hd he hde => ?_⟩
  · have e : (List.range n).map (fun d => if d = r then Value.slice (some ⟨g, 0, none⟩) ((f r).length + 1) cap else hv d) = ((List.range n).map hv).set r (.slice (some ⟨g, 0, none⟩) ((f r).length + 1) cap) := by
      apply List.ext_getElem
      · simp
      · intro i a1 a2
        simp only [List.getElem_map, List.getElem_range, List.getElem_set]
        by_cases ei : i = r
        · subst ei; simp
        · rw [if_neg ei, if_neg (fun h => ei h.symm)]
    rw [e]; exact s1
  · by_cases ed : d = r
    · subst ed
      simp only [if_true, List.length_append, List.length_singleton]
      exact hkeep hown
    · simp only [if_neg ed]
      refine hkeep ((h.row d hd).kept hg ?_)
      exact h.dist d r hd hr ed
  · have key : ∀ e, e < n → e ≠ r → (hv e).ownBlock = none ∨ (hv e).ownBlock ≠ some g := fun e he her => by
      rcases hat with hat | hat
      · rw [← hat]; exact h.dist e r he hr her
      · right
        intro e'
        have := ((h.row e he).lt g e').2
        omega
    by_cases ed : d = r
    · subst ed
      rw [if_pos rfl, if_neg (fun h => hde h.symm)]
      rcases key e he (fun h => hde h.symm) with k | k
      · right; rw [k]; simp [Value.ownBlock]
      · right; intro e'; exact k e'.symm
    · rw [if_neg ed]
      by_cases ee : e = r
      · subst ee
        rw [if_pos rfl]
        exact key d hd ed
      · rw [if_neg ee]
        exact h.dist d e hd he hde
theorem RowsV.at (h : RowsV W B G n hv f) : MatAt id W (.slice (some ⟨G, 0, none⟩) n n) ((List.range n).map f) := by
  refine ⟨(List.range n).map hv, ListAt.of_owns (f := id) (by rw [List.map_id]; exact h.own), by simp, fun i => ?_⟩
  by_cases hi : i < n
  · have := ListAt.of_owns (f := id) (l := f i) (by rw [List.map_id]; exact h.row i hi)
    simpa [hi] using this
  · rw [List.getD_eq_getElem?_getD, List.getD_eq_getElem?_getD, List.getElem?_eq_none (by simp; omega), List.getElem?_eq_none (by simp; omega)]
    exact ListAt.nil _ _
theorem RowsV.cube (h : RowsV W B G n hv f) {F : Nat → List (List Nat)} (hF : ∀ r, r < n → (f r).length = (F r).length ∧ ∀ k, ListAt byteV W ((f r).getD k nilS) ((F r).getD k [])) : CubeAt byteV W (.slice (some ⟨G, 0, none⟩) n n) ((List.range n).map F) := by
  refine ⟨(List.range n).map hv, ListAt.of_owns (f := id) (by rw [List.map_id]; exact h.own), by simp, fun i => ?_⟩
  by_cases hi : i < n
  · have := ListAt.of_owns (f := id) (l := f i) (by rw [List.map_id]; exact h.row i hi)
    have e1 : ((List.range n).map hv).getD i nilS = hv i := by simp [List.getD_eq_getElem?_getD, hi]
    have e2 : ((List.range n).map F).getD i [] = F i := by simp [List.getD_eq_getElem?_getD, hi]
    rw [e1, e2]
    exact ⟨f i, this, (hF i hi).1, (hF i hi).2⟩
  · rw [List.getD_eq_getElem?_getD, List.getD_eq_getElem?_getD, List.getElem?_eq_none (by simp; omega), List.getElem?_eq_none (by simp; omega)]
    exact MatAt.nil _ _
end
def CubeNew (base : Nat) (w : World) (v : Value) (L : List (List (List Nat))) : Prop :=
  ∀ w' : World, (∀ g, base ≤ g → g < w.heap.size → w'.heap[g]? = w.heap[g]?) → CubeAt byteV w' v L
theorem CubeNew.at {base : Nat} {w : World} {v : Value} {L : List (List (List Nat))} (h : CubeNew base w v L) : CubeAt byteV w v L := h w fun _ _ _ => rfl
end

section
open Go.RowKit Go.Extern.Stop Go.Stop Go.Extern
theorem zGV (n d : Nat) (hn : n ≤ 9223372036854775807) : wrap64 ((n : Int) / (d : Int)) = ((n / d : Nat) : Int) := by
  have := Nat.div_le_self n d
  rw [← Int.natCast_ediv]
  generalize n / d = q at *
  unfold wrap64; omega
theorem zJo (n d : Nat) : 0 < (n : Int) % (d : Int) ↔ 0 < n % d := by rw [← Int.natCast_emod]; omega
theorem zMV {n d : Nat} (h : 0 < n % d) : upN d n = n / d + 1 := by unfold upN; rw [if_pos h]
theorem zML {n d : Nat} (h : ¬ 0 < n % d) : upN d n = n / d := by unfold upN; rw [if_neg h]; rfl
theorem zBK {w : World} (bx d n : Nat) (hd : 1 ≤ d) (hn : n ≤ 9223372036854775807) (hc : w.cell? ⟨bx, 0, none⟩ = some (.int .i64 (d : Int))) :
    Calls Tryz.prog 115 #[.int .i64 (n : Int), .pointer (some ⟨bx, 0, none⟩)] w fun e w' => e = .returned (.int .i64 ((upN d n : Nat) : Int)) ∧ w = w' := by
  have h0 : ¬ (d : Int) = 0 := by omega
  have hz : ((d : Int) == 0) = false := by simpa using h0
  have hle := zCH hd n
  go_enter Tryz.func115, Tryz.ntmps115
  go_wp2_with fail
  · rename_i h
    go_ret
    have h' : 0 < n % d := (zJo n d).1 h
    refine ⟨?_, rfl⟩
    show Ending.returned (Value.int .i64 (wrap64 (wrap64 ((n : Int) / (d : Int)) + 1))) = _
    rw [zMV h'] at hle ⊢
    rw [zGV n d hn]
    generalize n / d = q at *
    congr 2
    unfold wrap64; omega
  · rename_i h
    go_ret
    have h' : ¬ 0 < n % d := fun k => by have := (zJo n d).2 k; omega
    refine ⟨?_, rfl⟩
    show Ending.returned (Value.int .i64 (wrap64 ((n : Int) / (d : Int)))) = _
    rw [zGV n d hn, zML h']
theorem zCh {w : World} (d : Int) : Calls Tryz.prog 85 #[.int .i64 d] w fun e w' => e = .returned (.func (.func 115) #[] #[.pointer (some ⟨w.heap.size, 0, none⟩)]) ∧ w' = w.alloc (.cells #[.int .i64 d] 3) := by
  go_enter Tryz.func85, Tryz.ntmps85
  go_wp2
  go_ret
  exact ⟨rfl, rfl⟩
theorem zAS {w : World} (s b : Nat) (hb : 1 ≤ b) (hs : s ≤ 9223372036854775807) :
    Calls Tryz.prog 84 #[.int .i64 (s : Int), .int .i64 (b : Int)] w fun e w' => e = .returned (.int .i64 ((symT s b : Nat) : Int)) ∧ Below w.heap.size w w' := by
  have hle := zEA (s := s) hb
  have hu := zCH hb s
  have hM : Hid (symT s b = max (upN b s) 1) := lhd rfl
  go_enter Tryz.func84, Tryz.ntmps84
  go_wp2_with fail
  refine (zCh _).mono ?_
  rintro e w1 ⟨rfl, rfl⟩
  go_wp2_with fail
  refine (zBK w.heap.size b s hb hs (by simp)).mono ?_
  rintro e w1 ⟨rfl, rfl⟩
  generalize upN b s = u at *
  go_wp2
  · go_ret
    refine ⟨?_, (Below.refl _ _).alloc (Nat.le_refl _) _⟩
    show Ending.returned (Value.int .i64 1) = _
    rw [show symT s b = 1 by rw [hM.out]; omega]; rfl
  · go_ret
    refine ⟨?_, (Below.refl _ _).alloc (Nat.le_refl _) _⟩
    show Ending.returned (Value.int .i64 (u : Int)) = _
    rw [show symT s b = u by rw [hM.out]; omega]
end

section
open Go.RowKit Go.Extern.Stop Go.Stop Go.Extern
theorem zGl {P : Program} {fn : Func} {p t : Tmp} {ty : TypeId} (h : fn.results = #[.cell p ty, .tmp t]) (tmps : Array Value) (w : World) (g : Nat) (tt : TypeId) (cs : Array Value) (fr : Nat × Nat) (d : TypeDesc)
    (hp : tmps.getD p undef = .pointer (some ⟨g, 0, none⟩)) (hg : w.heap[g]? = some (.cells cs tt fr))
    (hu : P.underlying ty = some d) (hd : (match d with | .struct _ | .array _ _ => true | _ => false) = true) (hi : (P.info? ty).map (·.size) = some cs.size) :
    (results fn tmps).run P w = .ok (.tuple #[.agg cs, tmps.getD t undef]) w := by
  have hp' : tmps[p]?.getD undef = .pointer (some ⟨g, 0, none⟩) := by simpa using hp
  simp [results, h, hp', asAddr, run_loadVar_row w g tt ty cs fr d hg hu hd hi]
def plC (s b n l q : Int) : Array Value := #[.int .i64 s, .int .i64 b, .int .i64 n, .int .i64 l, .int .i64 q]
def plV (s b n l q : Int) : Value := .agg (plC s b n l q)
def PlBox (W : World) (g : Nat) (s b n l q : Int) : Prop := W.heap[g]? = some (.cells (plC s b n l q) 37 (0, 0))
theorem PlBox.lt {W : World} {g : Nat} {s b n l q : Int} (h : PlBox W g s b n l q) : g < W.heap.size := (Array.getElem?_eq_some_iff.1 h).1
theorem PlBox.mono {W W' : World} {g : Nat} {s b n l q : Int} (h : PlBox W g s b n l q) (hb : Below W.heap.size W W') : PlBox W' g s b n l q := (hb.block g h.lt).trans h
theorem PlBox.cells {W : World} {g : Nat} {s b n l q : Int} (h : PlBox W g s b n l q) :
    W.cell? ⟨g, 0, none⟩ = some (.int .i64 s) ∧ W.cell? ⟨g, 1, none⟩ = some (.int .i64 b) ∧ W.cell? ⟨g, 2, none⟩ = some (.int .i64 n) ∧ W.cell? ⟨g, 3, none⟩ = some (.int .i64 l) ∧ W.cell? ⟨g, 4, none⟩ = some (.int .i64 q) :=
  ⟨zAa h rfl, zAa h rfl, zAa h rfl, zAa h rfl, zAa h rfl⟩
theorem zAv (w : World) (s b n l q : Int) : ∃ W, W = w.alloc (.cells #[.int .i64 s, .int .i64 b, .int .i64 n, .int .i64 l, .int .i64 q] 37) ∧ Below w.heap.size w W ∧ PlBox W w.heap.size s b n l q :=
  ⟨_, rfl, (Below.refl _ _).alloc (Nat.le_refl _) _, heap_alloc_new w _⟩
theorem PlBox.done {W : World} {g : Nat} (h : PlBox W g 0 0 0 0 0) (a b c d e : Value) : (((((W.setCell ⟨g, 0, none⟩ a).setCell ⟨g, 1, none⟩ b).setCell ⟨g, 2, none⟩ c).setCell ⟨g, 3, none⟩ d).setCell ⟨g, 4, none⟩ e).heap[g]? = some (.cells #[a, b, c, d, e] 37 (0, 0)) :=
  zAc (zAc (zAc (zAc (zAc h))))
theorem PlBox.below {W w : World} {B g : Nat} (hb : Below B w W) (hg : B ≤ g) (a b c d e : Value) : Below B w (((((W.setCell ⟨g, 0, none⟩ a).setCell ⟨g, 1, none⟩ b).setCell ⟨g, 2, none⟩ c).setCell ⟨g, 3, none⟩ d).setCell ⟨g, 4, none⟩ e) :=
  ((((hb.setCell (p := ⟨g, 0, none⟩) hg a).setCell (p := ⟨g, 1, none⟩) hg b).setCell (p := ⟨g, 2, none⟩) hg c).setCell (p := ⟨g, 3, none⟩) hg d).setCell (p := ⟨g, 4, none⟩) hg e
theorem PlBox.err {W : World} {g : Nat} {k : Int} {n : ByteArray} {E : Value} (h : PlBox W g 0 0 0 0 0) (he : ErrAns k n W E) (a b c d e : Value) : ErrAns k n (((((W.setCell ⟨g, 0, none⟩ a).setCell ⟨g, 1, none⟩ b).setCell ⟨g, 2, none⟩ c).setCell ⟨g, 3, none⟩ d).setCell ⟨g, 4, none⟩ e) E :=
  zBt he fun x s hc => by
    have n1 : x ≠ g := by
      rintro rfl
      rw [zAa (j := 0) (u := .int .i64 0) h rfl] at hc
      cases hc
    rw [Below.heap_setCell _ _ _ _ n1, Below.heap_setCell _ _ _ _ n1, Below.heap_setCell _ _ _ _ n1, Below.heap_setCell _ _ _ _ n1, Below.heap_setCell _ _ _ _ n1]
end

section
open Go.RowKit Go.Extern.Stop Go.Stop Go.Extern
theorem zBR {w : World} (s b n l q i : Int) (hq : 0 ≤ q) (hq2 : q ≤ 128) : Calls Tryz.prog 87 #[plV s b n l q, .int .i64 i] w fun e w' => e = .returned (.int .i64 (if i < l then q + 1 else q)) ∧ Below w.heap.size w w' := by
  unfold plV plC
  by_cases h : i < l
  · have d1 : decide (i < l) = true := decide_eq_true h
    rw [if_pos h]
    go_enter Tryz.func87, Tryz.ntmps87
    go_wp2
    go_ret
    exact ⟨rfl, (Below.refl _ _).alloc (Nat.le_refl _) _⟩
  · have d1 : decide (i < l) = false := decide_eq_false h
    rw [if_neg h]
    go_enter Tryz.func87, Tryz.ntmps87
    go_wp2
    go_ret
    exact ⟨rfl, (Below.refl _ _).alloc (Nat.le_refl _) _⟩
theorem zGj {w : World} (s b n l q : Int) (hs : I64 s) (hb : I64 b) (hn : I64 n) (hl : I64 l) (hq : I64 q) :
    Calls Tryz.prog 116 #[plV s b n l q] w fun e w' => e = .returned (.int .i64 (planC s b n l q)) ∧ Below w.heap.size w w' := by
  by_cases hA : s < 0 ∨ b < 1 ∨ 64 < b
  · have hP : planC s b n l q = 1 := by unfold planC; rw [if_pos hA]
    rw [hP]
    unfold plV plC
    go_enter Tryz.func116, Tryz.ntmps116
    go_wp2_with fail
    all_goals first
      | (go_ret; exact ⟨rfl, (Below.refl _ _).alloc (Nat.le_refl _) _⟩)
      | (exfalso; omega)
  have a1 : decide (s < 0) = false := decide_eq_false (by omega)
  have a2 : decide (b < 1) = false := decide_eq_false (by omega)
  have a3 : decide (64 < b) = false := decide_eq_false (by omega)
  by_cases hB : n < 1 ∨ 16 < n ∨ l < 0 ∨ n ≤ l
  · have hP : planC s b n l q = 2 := by unfold planC; rw [if_neg hA, if_pos (by omega)]
    rw [hP]
    clear hA
    unfold plV plC
    go_enter Tryz.func116, Tryz.ntmps116
    go_wp2_with fail
    all_goals first
      | (go_ret; exact ⟨rfl, (Below.refl _ _).alloc (Nat.le_refl _) _⟩)
      | (exfalso; omega)
  have b1 : decide (n < 1) = false := decide_eq_false (by omega)
  have b2 : decide (16 < n) = false := decide_eq_false (by omega)
  have b3 : decide (l < 0) = false := decide_eq_false (by omega)
  have b4 : decide (n ≤ l) = false := decide_eq_false (by omega)
  by_cases hC : q < 1 ∨ 128 < q
  · have hP : planC s b n l q = 2 := by unfold planC; rw [if_neg hA, if_pos (by omega)]
    rw [hP]
    clear hA hB
    unfold plV plC
    go_enter Tryz.func116, Tryz.ntmps116
    go_wp2_with fail
    all_goals first
      | (go_ret; exact ⟨rfl, (Below.refl _ _).alloc (Nat.le_refl _) _⟩)
      | (exfalso; omega)
  have c1 : decide (q < 1) = false := decide_eq_false (by omega)
  have c2 : decide (128 < q) = false := decide_eq_false (by omega)
  obtain ⟨W0, hW0, hb0, hbx⟩ := zAv w s b n l q
  have HW0 := lhd hW0
  have HB0 := lhd hb0
  have HCNT : Hid (Calls Tryz.prog 87 #[.agg #[.int .i64 s, .int .i64 b, .int .i64 n, .int .i64 l, .int .i64 q], .int .i64 0] W0 fun e w' => e = .returned (.int .i64 (if 0 < l then q + 1 else q)) ∧ Below W0.heap.size W0 w') := lhd (zBR s b n l q 0 (by omega) (by omega))
  have HQ : Hid (planC s b n l q = if 0 < l ∧ q = 128 then 2 else if n * q + l = (symT s.toNat b.toNat : Int) then 0 else 2) := lhd (by
    unfold planC
    rw [if_neg hA]
    by_cases h : 0 < l ∧ q = 128
    · rw [if_pos (by omega), if_pos h]
    · rw [if_neg (by omega), if_neg h])
  obtain ⟨S, hS⟩ : ∃ S : Nat, s = S := ⟨s.toNat, by omega⟩
  obtain ⟨B, hB'⟩ : ∃ B : Nat, b = B := ⟨b.toNat, by omega⟩
  subst hS hB'
  have hqn : n * q + l ≤ 2063 := by
    have h1 : n * q ≤ 16 * q := Int.mul_le_mul_of_nonneg_right (by omega) (by omega)
    omega
  have hqp : 0 ≤ n * q := Int.mul_nonneg (by omega) (by omega)
  have hqm : n * q ≤ 2048 := by
    have h1 : n * q ≤ 16 * q := Int.mul_le_mul_of_nonneg_right (by omega) (by omega)
    omega
  have HLP : Hid (0 ≤ l) := lhd (by omega)
  have HX : Hid (∀ V, Below W0.heap.size W0 V → PlBox V w.heap.size (S : Int) (B : Int) n l q) := lhd fun V hV => hbx.mono hV
  have HSY : Hid (∀ V : World, Calls Tryz.prog 84 #[.int .i64 (S : Int), .int .i64 (B : Int)] V fun e w' => e = .returned (.int .i64 ((symT S B : Nat) : Int)) ∧ Below V.heap.size V w') := lhd fun V => zAS S B (by omega) (by unfold I64 at hs; omega)
  have hT : symT S B ≤ 9223372036854775807 := by have := zEA (s := S) (b := B) (by omega); unfold I64 at hs; omega
  have hlt0 := hbx.lt
  obtain ⟨c, hc⟩ : ∃ c : Int, c = if 0 < l then q + 1 else q := ⟨_, rfl⟩
  rw [← hc] at HCNT
  have HD1 : 0 < l ∧ q = 128 → decide (128 < c) = true := fun h => decide_eq_true (by rw [hc, if_pos h.1]; omega)
  have HD2 : ¬ (0 < l ∧ q = 128) → decide (128 < c) = false := fun h => decide_eq_false (by rw [hc]; split <;> omega)
  clear hA hB hC hs hb hn hl hq hW0 hb0 hc
  unfold plV plC
  by_cases hD : 0 < l ∧ q = 128
  · have hP : planC (S : Int) (B : Int) n l q = 2 := by rw [HQ.out, if_pos hD]
    rw [hP]
    have e1 := HD1 hD
    clear hD HD1 HD2
    go_enter Tryz.func116, Tryz.ntmps116
    go_wp2_with fail
    rw [← HW0.out]
    refine HCNT.out.mono ?_
    rintro e w1 ⟨rfl, hb1⟩
    have HB1 := lhd (HB0.out.trans (hb1.mono HB0.out.size))
    clear hb1
    go_wp2_with fail
    go_ret
    exact ⟨rfl, HB1.out⟩
  · have e1 := HD2 hD
    have HQ2 : Hid (planC (S : Int) (B : Int) n l q = if n * q + l = (symT S B : Int) then 0 else 2) := lhd (by rw [HQ.out, if_neg hD]; simp)
    clear hD HD1 HD2 HQ
    obtain ⟨r, hr⟩ : ∃ r : Int, r = if n * q + l = (symT S B : Int) then 0 else 2 := ⟨_, rfl⟩
    rw [HQ2.out, ← hr]
    have HR := lhd hr
    clear hr HQ2
    go_enter Tryz.func116, Tryz.ntmps116
    go_wp2_with fail
    rw [← HW0.out]
    refine HCNT.out.mono ?_
    rintro e w1 ⟨rfl, hb1⟩
    have HB1 := lhd hb1
    have HSD : Hid (w1.drew.cell? ⟨w.heap.size, 0, none⟩ = some (.int .i64 (S : Int)) ∧ w1.drew.cell? ⟨w.heap.size, 1, none⟩ = some (.int .i64 (B : Int)) ∧ w1.drew.cell? ⟨w.heap.size, 2, none⟩ = some (.int .i64 n) ∧ w1.drew.cell? ⟨w.heap.size, 3, none⟩ = some (.int .i64 l) ∧ w1.drew.cell? ⟨w.heap.size, 4, none⟩ = some (.int .i64 q)) := lhd (HX.out _ hb1).cells
    have HSAT : Hid (∀ V, Below w1.drew.heap.size w1.drew V → V.cell? ⟨w.heap.size, 0, none⟩ = some (.int .i64 (S : Int)) ∧ V.cell? ⟨w.heap.size, 1, none⟩ = some (.int .i64 (B : Int)) ∧ V.cell? ⟨w.heap.size, 2, none⟩ = some (.int .i64 n) ∧ V.cell? ⟨w.heap.size, 3, none⟩ = some (.int .i64 l) ∧ V.cell? ⟨w.heap.size, 4, none⟩ = some (.int .i64 q)) :=
      lhd fun V hV => (HX.out V ((HB1.out.trans (((Below.refl _ w1).drew).mono HB1.out.size)).trans (hV.mono HB1.out.size))).cells
    clear hb1
    go_upto_region 7 with fail
    go_region_held3 (fun w' => w'.cell? ⟨w.heap.size, 0, none⟩ = some (.int .i64 (S : Int)) ∧ w'.cell? ⟨w.heap.size, 1, none⟩ = some (.int .i64 (B : Int)) ∧ w'.cell? ⟨w.heap.size, 2, none⟩ = some (.int .i64 n) ∧ w'.cell? ⟨w.heap.size, 3, none⟩ = some (.int .i64 l) ∧ w'.cell? ⟨w.heap.size, 4, none⟩ = some (.int .i64 q))
      (first | exact HSD.out | exact HSAT.out _ HB3.out | go_keep)
      (first
      | (go_at_call 84; (with_reducible refine (HSY.out _).mono ?_); rintro e w3 ⟨rfl, hb3⟩; have HB3 := lhd hb3; clear hb3))
    all_goals
      have HB4 := lhd (HB0.out.trans ((HB1.out.trans (((Below.refl _ w1).drew.trans HB3.out).mono HB1.out.size)).mono HB0.out.size))
      clear HB3 HSAT HSD
      have hw : IntKind.i64.wrap (IntKind.i64.wrap (n * q) + l) = n * q + l := by rw [IntWalk.i64_in (n * q) (by omega), IntWalk.i64_in _ (by have := HLP.out; omega)]
      by_cases hE : n * q + l = (symT S B : Int)
      · have e2 : (IntKind.i64.wrap (IntKind.i64.wrap (n * q) + l) != (symT S B : Int)) = false := by rw [hw]; simpa using hE
        have hr : r = 0 := by rw [HR.out, if_pos hE]
        clear hE HR hw
        go_wp2
        go_ret
        exact ⟨by rw [hr]; rfl, HB4.out⟩
      · have e2 : (IntKind.i64.wrap (IntKind.i64.wrap (n * q) + l) != (symT S B : Int)) = true := by rw [hw]; simpa using hE
        have hr : r = 2 := by rw [HR.out, if_neg hE]
        clear hE HR hw
        go_wp2
        go_ret
        exact ⟨by rw [hr]; rfl, HB4.out⟩
end

section
open Go.RowKit Go.Extern.Stop Go.Stop Go.Extern
theorem zD3 (c c0 : ByteArray) (n : Int) (E : Value) (w : World) (hn : n ≠ 0) (h : ErrAns n c0 w E) : Calls Tryz.prog 31 #[.string c, E] w fun e w' =>
    ∃ E', e = .returned E' ∧ ErrAns n c w' E' ∧ Below w.heap.size w w' := by
  obtain ⟨ls, hch⟩ : ∃ ls, Chain w n (c0 :: ls) E := (h.resolve_left (by rintro ⟨h, -⟩; exact hn h)).2
  refine (zBC c n _ _ _ hch).mono ?_
  rintro e w' ⟨E', rfl, hc, hb⟩
  exact ⟨_, rfl, .inr ⟨hn, _, hc⟩, hb⟩
theorem zAK (c : ByteArray) (n : Int) (w : World) : Calls Tryz.prog 39 #[.string c, .int .i64 n] w fun e w' =>
    ∃ E, e = .returned E ∧ ErrAns n c w' E ∧ Below w.heap.size w w' := by
  by_cases hn : n = 0
  · subst hn
    refine (zLj c w).mono ?_
    rintro e w' ⟨rfl, rfl⟩
    exact ⟨_, rfl, ErrAns.none _ _, Below.refl _ _⟩
  · exact zAH c n hn w
end

section
open Go.RowKit Go.Extern.Stop Go.Stop Go.Extern
def nameBkOf : ByteArray := ⟨#[98, 108, 111, 99, 107, 105, 110, 103, 46, 79, 102]⟩
def nameBkCheck : ByteArray := ⟨#[98, 108, 111, 99, 107, 105, 110, 103, 46, 67, 104, 101, 99, 107]⟩
def nameBkSource : ByteArray := ⟨#[98, 108, 111, 99, 107, 105, 110, 103, 46, 83, 111, 117, 114, 99, 101]⟩
theorem zBL {w : World} (s b n l q : Int) (hs : I64 s) (hb : I64 b) (hn : I64 n) (hl : I64 l) (hq : I64 q) :
    Calls Tryz.prog 86 #[plV s b n l q] w fun e w' => ∃ E, e = .returned E ∧ ErrAns (planC s b n l q) nameBkCheck w' E ∧ Below w.heap.size w w' := by
  have HWR : Hid (∀ V : World, Calls Tryz.prog 116 #[.agg #[.int .i64 s, .int .i64 b, .int .i64 n, .int .i64 l, .int .i64 q]] V fun e w' => e = .returned (.int .i64 (planC s b n l q)) ∧ Below V.heap.size V w') := lhd fun V => zGj s b n l q hs hb hn hl hq
  generalize planC s b n l q = k at *
  unfold plV plC
  obtain ⟨W0, hW0, hb0, hbx⟩ := zAv w s b n l q
  have HW0 := lhd hW0
  have HB0 := lhd hb0
  clear hs hb hn hl hq hW0 hb0 hbx
  go_enter Tryz.func86, Tryz.ntmps86
  go_wp2_with fail
  rw [← HW0.out]
  refine (HWR.out W0).mono ?_
  rintro e w1 ⟨rfl, hb1⟩
  have HB1 := lhd (HB0.out.trans (hb1.mono HB0.out.size))
  clear hb1
  go_wp2_with fail
  refine (zAK nameBkCheck k _).mono ?_
  rintro e w2 ⟨E, rfl, hc, hb2⟩
  have HC := lhd hc
  have HB2 := lhd (HB1.out.trans (hb2.mono HB1.out.size))
  clear hc hb2
  go_wp2
  go_ret
  exact ⟨_, rfl, HC.out, HB2.out⟩
def srcC (s b n l q i : Int) : Int := if planC s b n l q = 0 then (if i < 0 ∨ n ≤ i then 1 else 0) else planC s b n l q
theorem zE8 {w : World} (s b n l q i : Int) (hs : I64 s) (hb : I64 b) (hn : I64 n) (hl : I64 l) (hq : I64 q) :
    Calls Tryz.prog 54 #[plV s b n l q, .int .i64 i] w fun e w' => ∃ E, e = .returned (.tuple #[.int .i64 (if srcC s b n l q i = 0 then (if i < l then q + 1 else q) else 0), E]) ∧ ErrAns (srcC s b n l q i) nameBkSource w' E ∧ Below w.heap.size w w' := by
  have HCK : Hid (∀ V : World, Calls Tryz.prog 86 #[.agg #[.int .i64 s, .int .i64 b, .int .i64 n, .int .i64 l, .int .i64 q]] V fun e w' => ∃ E, e = .returned E ∧ ErrAns (planC s b n l q) nameBkCheck w' E ∧ Below V.heap.size V w') := lhd fun V => zBL s b n l q hs hb hn hl hq
  obtain ⟨W0, hW0, hb0, hbx⟩ := zAv w s b n l q
  have HW0 := lhd hW0
  have HB0 := lhd hb0
  have HX := lhd hbx
  by_cases hk : planC s b n l q = 0
  · have HCN : Hid (∀ V : World, Calls Tryz.prog 87 #[.agg #[.int .i64 s, .int .i64 b, .int .i64 n, .int .i64 l, .int .i64 q], .int .i64 i] V fun e w' => e = .returned (.int .i64 (if i < l then q + 1 else q)) ∧ Below V.heap.size V w') := lhd fun V => by
      obtain ⟨s', b', n', l', q', rfl, rfl, rfl, rfl, rfl, h⟩ := zDS hk
      exact zBR _ _ _ _ _ i (by omega) (by have := h.q128; omega)
    have hS : srcC s b n l q i = if i < 0 ∨ n ≤ i then 1 else 0 := by unfold srcC; rw [if_pos hk]
    rw [hS]
    rw [hk] at HCK
    clear hs hb hn hl hq hW0 hb0 hbx hS hk
    unfold plV plC
    by_cases hi : i < 0 ∨ n ≤ i
    · rw [if_pos hi]
      have HBAD : decide (i < 0) = true ∨ decide (i < 0) = false ∧ decide (n ≤ i) = true := by
        by_cases h : i < 0
        · exact .inl (decide_eq_true h)
        · exact .inr ⟨decide_eq_false h, decide_eq_true (by omega)⟩
      clear hi
      rcases HBAD with d1 | ⟨d1, d2⟩
      all_goals
        go_enter Tryz.func54, Tryz.ntmps54
        go_wp2_with fail
        rw [← HW0.out]
        refine (HCK.out W0).mono ?_
        rintro e w1 ⟨E, rfl, he, hb1⟩
        obtain rfl : E = .nilIface := by
          rcases he with ⟨-, h⟩ | ⟨h, -⟩
          · exact h
          · exact absurd rfl h
        have HB1 := lhd (HB0.out.trans (hb1.mono HB0.out.size))
        obtain ⟨c0, c1, c2, c3, c4⟩ := (HX.out.mono hb1).cells
        clear he hb1
        go_wp2_with fail
        refine (zAH nameBkSource 1 (by decide) _).mono ?_
        rintro e w2 ⟨E, rfl, hc, hb2⟩
        have HC := lhd hc
        have HB2 := lhd (HB1.out.trans (hb2.mono HB1.out.size))
        clear hc hb2
        go_wp2
        go_ret2
        exact ⟨_, rfl, HC.out, HB2.out⟩
    · rw [if_neg hi]
      have d1 : decide (i < 0) = false := decide_eq_false (by omega)
      have d2 : decide (n ≤ i) = false := decide_eq_false (by omega)
      clear hi
      generalize (if i < l then q + 1 else q) = x at *
      go_enter Tryz.func54, Tryz.ntmps54
      go_wp2_with fail
      rw [← HW0.out]
      refine (HCK.out W0).mono ?_
      rintro e w1 ⟨E, rfl, he, hb1⟩
      obtain rfl : E = .nilIface := by
        rcases he with ⟨-, h⟩ | ⟨h, -⟩
        · exact h
        · exact absurd rfl h
      have HB1 := lhd (HB0.out.trans (hb1.mono HB0.out.size))
      obtain ⟨c0, c1, c2, c3, c4⟩ := (HX.out.mono hb1).cells
      clear he hb1
      go_wp2_with fail
      refine (HCN.out w1).mono ?_
      rintro e w2 ⟨rfl, hb2⟩
      have HB2 := lhd (HB1.out.trans (hb2.mono HB1.out.size))
      clear hb2
      go_wp2
      go_ret2
      exact ⟨_, rfl, ErrAns.none _ _, HB2.out⟩
  · have hS : srcC s b n l q i = planC s b n l q := by unfold srcC; rw [if_neg hk]
    rw [hS, if_neg hk]
    generalize planC s b n l q = k at *
    clear hs hb hn hl hq hW0 hb0 hbx hS
    unfold plV plC
    go_enter Tryz.func54, Tryz.ntmps54
    go_wp2_with fail
    rw [← HW0.out]
    refine (HCK.out W0).mono ?_
    rintro e w1 ⟨E, rfl, he, hb1⟩
    have HB1 := lhd (HB0.out.trans (hb1.mono HB0.out.size))
    have HCH := lhd he
    obtain ⟨u, x, rfl⟩ := he.some hk
    clear he hb1
    go_wp2_with fail
    refine (zD3 nameBkSource _ k _ _ hk HCH.out).mono ?_
    rintro e w2 ⟨E2, rfl, hch, hb2⟩
    have HB2 := lhd (HB1.out.trans (hb2.mono HB1.out.size))
    have HC := lhd hch
    obtain ⟨u2, x2, rfl⟩ := hch.some hk
    clear hch hb2
    go_wp2
    go_ret2
    exact ⟨_, rfl, HC.out, HB2.out⟩
end

section
open Go.RowKit Go.Extern.Stop Go.Stop Go.Extern
def OutOf (s b m : Int) : Prop := s < 0 ∨ b < 1 ∨ 64 < b ∨ m < 1 ∨ 128 < m
theorem zIa {w : World} (s b m : Int) (h : OutOf s b m) : Calls Tryz.prog 53 #[.int .i64 s, .int .i64 b, .int .i64 m] w fun e w' => ∃ E, e = .returned (.tuple #[plV 0 0 0 0 0, E]) ∧ ErrAns 1 nameBkOf w' E ∧ Below w.heap.size w w' := by
  obtain ⟨w0, hw0, hb0, hbx⟩ := zAv w 0 0 0 0 0
  have HW0 := lhd hw0
  have HB0 := lhd hb0
  have HBX := lhd hbx
  clear hw0 hb0 hbx
  unfold OutOf at h
  go_enter Tryz.func53, Tryz.ntmps53
  go_wp2_with fail
  all_goals first | (exfalso; omega) | skip
  all_goals
    rw [← HW0.out]
    refine (zAH nameBkOf 1 (by decide) _).mono ?_
    rintro e w1 ⟨E1, rfl, hc1, hb1⟩
    have hbx := HBX.out.mono hb1
    have c0 := zAa (j := 0) (u := .int .i64 0) hbx rfl
    have c1 := zAa (j := 1) (u := .int .i64 0) hbx rfl
    have c2 := zAa (j := 2) (u := .int .i64 0) hbx rfl
    have c3 := zAa (j := 3) (u := .int .i64 0) hbx rfl
    have c4 := zAa (j := 4) (u := .int .i64 0) hbx rfl
    have f0 := zAb (j := 0) hbx
    have f1 := zAb (j := 1) hbx
    have f2 := zAb (j := 2) hbx
    have f3 := zAb (j := 3) hbx
    have f4 := zAb (j := 4) hbx
    have HBX1 := lhd hbx
    have HC1 := lhd hc1
    have HB1 := lhd (HB0.out.trans (hb1.mono HB0.out.size))
    obtain ⟨u, x, rfl⟩ := hc1.some (by decide)
    clear hc1 hb1 hbx
    go_wp2
    refine bodyPost_ret (zGl rfl _ _ w.heap.size 37 _ (0, 0) _ rfl (HBX1.out.done _ _ _ _ _) Tryz.underlying37 rfl (by kernel_rfl)) rfl ?_
    exact ⟨_, rfl, HBX1.out.err HC1.out _ _ _ _ _, PlBox.below HB1.out (Nat.le_refl _) _ _ _ _ _⟩
theorem zIk {w : World} (s b m : Nat) (hs : s ≤ 9223372036854775807) (b1 : 1 ≤ b) (b2 : b ≤ 64) (m1 : 1 ≤ m) (m2 : m ≤ 128) (hl : 16 < upN m (symT s b)) :
    Calls Tryz.prog 53 #[.int .i64 (s : Int), .int .i64 (b : Int), .int .i64 (m : Int)] w fun e w' => ∃ E, e = .returned (.tuple #[plV 0 0 0 0 0, E]) ∧ ErrAns 3 nameBkOf w' E ∧ Below w.heap.size w w' := by
  obtain ⟨w0, hw0, hb0, hbx⟩ := zAv w 0 0 0 0 0
  have HW0 := lhd hw0
  have HB0 := lhd hb0
  have HBX := lhd hbx
  have HSY : Hid (∀ V : World, Calls Tryz.prog 84 #[.int .i64 (s : Int), .int .i64 (b : Int)] V fun e w' => e = .returned (.int .i64 ((symT s b : Nat) : Int)) ∧ Below V.heap.size V w') := lhd fun V => zAS s b b1 hs
  have hT : symT s b ≤ 9223372036854775807 := by have := zEA (s := s) b1; omega
  have d1 : decide ((s : Int) < 0) = false := decide_eq_false (by omega)
  have d2 : decide ((b : Int) < 1) = false := decide_eq_false (by omega)
  have d3 : decide (64 < (b : Int)) = false := decide_eq_false (by omega)
  have d4 : decide ((m : Int) < 1) = false := decide_eq_false (by omega)
  have d5 : decide (128 < (m : Int)) = false := decide_eq_false (by omega)
  have d6 : decide (16 < ((upN m (symT s b) : Nat) : Int)) = true := decide_eq_true (by omega)
  have HOV : Hid (∀ (V : World) (bx : Nat), V.cell? ⟨bx, 0, none⟩ = some (.int .i64 (m : Int)) → Calls Tryz.prog 115 #[.int .i64 ((symT s b : Nat) : Int), .pointer (some ⟨bx, 0, none⟩)] V fun e w' => e = .returned (.int .i64 ((upN m (symT s b) : Nat) : Int)) ∧ V = w') := lhd fun V bx hc => zBK bx m (symT s b) m1 hT hc
  generalize upN m (symT s b) = n at *
  generalize symT s b = T at *
  clear hw0 hb0 hbx hl
  go_enter Tryz.func53, Tryz.ntmps53
  go_wp2_with fail
  rw [← HW0.out]
  refine (HSY.out w0).mono ?_
  rintro e w1 ⟨rfl, hb1⟩
  have HB1 := lhd (HB0.out.trans (hb1.mono HB0.out.size))
  have HBX1 := lhd (HBX.out.mono hb1)
  clear hb1 HBX
  go_wp2_with fail
  refine (zCh _).mono ?_
  rintro e w2 ⟨rfl, hw2⟩
  have hc2 : w2.cell? ⟨w1.heap.size, 0, none⟩ = some (.int .i64 (m : Int)) := by rw [hw2]; simp
  have hb2 : Below w1.heap.size w1 w2 := by rw [hw2]; exact (Below.refl _ _).alloc (Nat.le_refl _) _
  have HB2 := lhd (HB1.out.trans (hb2.mono HB1.out.size))
  have HBX2 := lhd (HBX1.out.mono hb2)
  have HC2 := lhd hc2
  clear hb2 hw2 hc2 HBX1 HB1
  go_wp2_with fail
  refine (HOV.out w2 _ HC2.out).mono ?_
  rintro e w3 ⟨rfl, rfl⟩
  go_wp2_with fail
  refine (zAH nameBkOf 3 (by decide) _).mono ?_
  rintro e w3 ⟨E1, rfl, hc1, hb1⟩
  have hbx := HBX2.out.mono hb1
  have c0 := zAa (j := 0) (u := .int .i64 0) hbx rfl
  have c1 := zAa (j := 1) (u := .int .i64 0) hbx rfl
  have c2 := zAa (j := 2) (u := .int .i64 0) hbx rfl
  have c3 := zAa (j := 3) (u := .int .i64 0) hbx rfl
  have c4 := zAa (j := 4) (u := .int .i64 0) hbx rfl
  have f0 := zAb (j := 0) hbx
  have f1 := zAb (j := 1) hbx
  have f2 := zAb (j := 2) hbx
  have f3 := zAb (j := 3) hbx
  have f4 := zAb (j := 4) hbx
  have HBX1 := lhd hbx
  have HC1 := lhd hc1
  have HB3 := lhd (HB2.out.trans (hb1.mono HB2.out.size))
  obtain ⟨u, x, rfl⟩ := hc1.some (by decide)
  clear hc1 hb1 hbx
  go_wp2
  refine bodyPost_ret (zGl rfl _ _ w.heap.size 37 _ (0, 0) _ rfl (HBX1.out.done _ _ _ _ _) Tryz.underlying37 rfl (by kernel_rfl)) rfl ?_
  exact ⟨_, rfl, HBX1.out.err HC1.out _ _ _ _ _, PlBox.below HB3.out (Nat.le_refl _) _ _ _ _ _⟩
theorem zMs {w : World} (s b m : Nat) (hs : s ≤ 9223372036854775807) (b1 : 1 ≤ b) (b2 : b ≤ 64) (m1 : 1 ≤ m) (m2 : m ≤ 128) (hl : upN m (symT s b) ≤ 16) :
    Calls Tryz.prog 53 #[.int .i64 (s : Int), .int .i64 (b : Int), .int .i64 (m : Int)] w fun e w' => ∃ n l q : Nat, e = .returned (.tuple #[plV s b n l q, .nilIface]) ∧ PlanOf s b m n l q ∧ n ≤ 16 ∧ Below w.heap.size w w' := by
  obtain ⟨w0, hw0, hb0, hbx⟩ := zAv w 0 0 0 0 0
  have HW0 := lhd hw0
  have HB0 := lhd hb0
  have HBX := lhd hbx
  have HSY : Hid (∀ V : World, Calls Tryz.prog 84 #[.int .i64 (s : Int), .int .i64 (b : Int)] V fun e w' => e = .returned (.int .i64 ((symT s b : Nat) : Int)) ∧ Below V.heap.size V w') := lhd fun V => zAS s b b1 hs
  have hT : symT s b ≤ 9223372036854775807 := by have := zEA (s := s) b1; omega
  have hn1 : 1 ≤ upN m (symT s b) := zL3 m1 (zEE s b)
  have d1 : decide ((s : Int) < 0) = false := decide_eq_false (by omega)
  have d2 : decide ((b : Int) < 1) = false := decide_eq_false (by omega)
  have d3 : decide (64 < (b : Int)) = false := decide_eq_false (by omega)
  have d4 : decide ((m : Int) < 1) = false := decide_eq_false (by omega)
  have d5 : decide (128 < (m : Int)) = false := decide_eq_false (by omega)
  have d6 : decide (16 < ((upN m (symT s b) : Nat) : Int)) = false := decide_eq_false (by omega)
  have HOV : Hid (∀ (V : World) (bx : Nat), V.cell? ⟨bx, 0, none⟩ = some (.int .i64 (m : Int)) → Calls Tryz.prog 115 #[.int .i64 ((symT s b : Nat) : Int), .pointer (some ⟨bx, 0, none⟩)] V fun e w' => e = .returned (.int .i64 ((upN m (symT s b) : Nat) : Int)) ∧ V = w') := lhd fun V bx hc => zBK bx m (symT s b) m1 hT hc
  have HPL : Hid (PlanOf s b m (upN m (symT s b)) (symT s b % upN m (symT s b)) (symT s b / upN m (symT s b))) := lhd ⟨b1, b2, m1, m2, rfl, rfl, rfl⟩
  generalize upN m (symT s b) = n at *
  generalize symT s b = T at *
  have hz : ¬ (n : Int) = 0 := by omega
  have hz2 : ((n : Int) == 0) = false := by simpa using hz
  have hz3 : ¬ n = 0 := by omega
  have hq2 : T / n ≤ 9223372036854775807 := Nat.le_trans (Nat.div_le_self _ _) hT
  have hr2 : T % n ≤ 9223372036854775807 := Nat.le_trans (Nat.mod_le _ _) hT
  have hq : (T : Int) / (n : Int) = ((T / n : Nat) : Int) := by simp
  have hr : (T : Int) % (n : Int) = ((T % n : Nat) : Int) := by simp
  have hq3 : (T : Int).tdiv (n : Int) = ((T / n : Nat) : Int) := rfl
  have hr3 : (T : Int).tmod (n : Int) = ((T % n : Nat) : Int) := rfl
  generalize T / n = q at *
  generalize T % n = r at *
  clear hw0 hb0 hbx
  go_enter Tryz.func53, Tryz.ntmps53
  go_wp2_with fail
  rw [← HW0.out]
  refine (HSY.out w0).mono ?_
  rintro e w1 ⟨rfl, hb1⟩
  have HB1 := lhd (HB0.out.trans (hb1.mono HB0.out.size))
  have HBX1 := lhd (HBX.out.mono hb1)
  clear hb1 HBX
  go_wp2_with fail
  refine (zCh _).mono ?_
  rintro e w2 ⟨rfl, hw2⟩
  have hc2 : w2.cell? ⟨w1.heap.size, 0, none⟩ = some (.int .i64 (m : Int)) := by rw [hw2]; simp
  have hb2 : Below w1.heap.size w1 w2 := by rw [hw2]; exact (Below.refl _ _).alloc (Nat.le_refl _) _
  have HB2 := lhd (HB1.out.trans (hb2.mono HB1.out.size))
  have HBX2 := lhd (HBX1.out.mono hb2)
  have HC2 := lhd hc2
  clear hb2 hw2 hc2 HBX1 HB1
  go_wp2_with fail
  refine (HOV.out w2 _ HC2.out).mono ?_
  rintro e w3 ⟨rfl, rfl⟩
  have hbx := HBX2.out
  have c0 := zAa (j := 0) (u := .int .i64 0) hbx rfl
  have c1 := zAa (j := 1) (u := .int .i64 0) hbx rfl
  have c2 := zAa (j := 2) (u := .int .i64 0) hbx rfl
  have c3 := zAa (j := 3) (u := .int .i64 0) hbx rfl
  have c4 := zAa (j := 4) (u := .int .i64 0) hbx rfl
  have f0 := zAb (j := 0) hbx
  have f1 := zAb (j := 1) hbx
  have f2 := zAb (j := 2) hbx
  have f3 := zAb (j := 3) hbx
  have f4 := zAb (j := 4) hbx
  clear hbx
  go_upto_region 7 with fail
  go_region
  go_wp2
  refine bodyPost_ret (zGl rfl _ _ w.heap.size 37 _ (0, 0) _ rfl (HBX2.out.done _ _ _ _ _) Tryz.underlying37 rfl (by kernel_rfl)) rfl ?_
  exact ⟨n, r, q, rfl, HPL.out, hl, (PlBox.below HB2.out (Nat.le_refl _) _ _ _ _ _).drew⟩
end
end Go.Proofs.YtkfimdpcadbcpaaGreatDoor
