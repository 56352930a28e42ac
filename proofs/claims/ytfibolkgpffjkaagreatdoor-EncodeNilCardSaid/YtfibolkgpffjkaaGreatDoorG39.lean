import Derived.Test.YtfibolkgpffjkaaGreatDoorG12
import Derived.Test.YtfibolkgpffjkaaGreatDoorG32

section
/- A range over a function that hands over what it has just made: the contract of such an iterator (SeqPre: with each element a word, Pr, on the world in which it is handed over), and the law of the loop, whose body is told that word. -/
namespace Go.Proofs.YtfibolkgpffjkaaGreatDoor
open Go.RowKit Go.Extern.Stop Go.Stop Go.Extern

/-- The contract. -/
def SeqPre {α : Type} (F : Fence) (n : Nat) (P : Program) (g : Nat) (lb : Array Value) (encs : α → Array Value) (Pr : List α → α → World → Prop) (Kp : World → World → Prop) (S Sp : List α → Prop) (w : World) : Prop :=
  ∀ (l : Nat) (J Jx : List α → World → Prop) (W : World), Below w.heap.size w W → AbidesFrom W.heap.size J → AbidesFrom W.heap.size Jx →
    (∀ pre x V, J pre V → Pr pre x V → YieldAt F (n - 1) P l (encs x) V fun e V' => (e = .returned (.bool true) ∧ J (pre ++ [x]) V' ∧ Kp V V') ∨ (e = .returned (.bool false) ∧ Jx (pre ++ [x]) V')) →
    J [] W → CallsIn F n P g (#[.func (.yield l) #[] #[]] ++ lb) W fun e V => (∃ v, e = .returned v) ∧ ((∃ xs, S xs ∧ J xs V) ∨ ∃ pre, Sp pre ∧ Jx pre V)

/-- The blocks of a loop: the rounds' deferred calls (none) in block b, the record behind it. -/
def LoopAt (b : Nat) (r : Loop) (W : World) : Prop := W.heap[b + 1]? = some (.loop r) ∧ W.heap[b]? = some (.deferred (some []))
theorem LoopAt.grown {b : Nat} {r : Loop} {W W' : World} {row : Option Nat} (h : LoopAt b r W) (hg : W.grownBy W' row) (hr : ∀ q, row = some q → ∃ o : Obj, W.heap[q]? = some o ∧ o.isWalk = true) : LoopAt b r W' :=
  ⟨(grownBy_keeps hg hr h.1 rfl).trans h.1, (grownBy_keeps hg hr h.2 rfl).trans h.2⟩
theorem LoopAt.kept {b : Nat} {r : Loop} {W W' : World} (h : LoopAt b r W) (hk : KeepsFrom b W W') : LoopAt b r W' :=
  ⟨hk.same _ _ (by omega) h.1 rfl, hk.same _ _ (Nat.le_refl _) h.2 rfl⟩
theorem LoopAt.put {b : Nat} {r : Loop} {W : World} (h : LoopAt b r W) (r' : Loop) : LoopAt b r' (W.putObj (b + 1) (.loop r')) :=
  ⟨World.putObj_heap_same (Array.getElem?_eq_some_iff.1 h.1).1, (World.putObj_heap_other (by omega)).trans h.2⟩
theorem LoopAt.laid (w : World) (r : Loop) : LoopAt w.heap.size r ((w.alloc (.deferred (some []))).alloc (.loop r)) := by
  have h := World.alloc_heap_new (w.alloc (.deferred (some []))) (.loop r)
  rw [World.size_alloc] at h
  exact ⟨h, (Below.heap_alloc _ _ _ (by simp)).trans (World.alloc_heap_new w _)⟩

section
variable {α : Type} {F : Fence} {n : Nat} {P : Program}

theorem wpIn_range_pre {g : Operand} {ps : Array Tmp} {assign body : Code} {Q : Exit → Act → World → Prop} {a : Act} {w : World}
    (hro : F.round = none) (h1 : 1 ≤ n) {gf : Nat} {lb : Array Value} (hg : a.eval g = .func (.func gf) #[] lb) (hFg : F.fn gf) (eg : ∀ args w, (callFunc gf args).run P w = .ok (.enter gf args) w)
    {encs : α → Array Value} {Pr : List α → α → World → Prop} {Kp : World → World → Prop} {S Sp : List α → Prop} {w0 : World} (hseq : SeqPre F (n - 1) P gf lb encs Pr Kp S Sp w0)
    (hKt : ∀ {A B C : World}, Kp A B → Kp B C → Kp A C) (hKb : ∀ (W : World) (l : Nat) (o o' : Obj), w.heap.size ≤ l → W.heap[l]? = some o → o.isCells = false → o.isWalk = false → Kp W (W.putObj l o')) (hb0 : Below w0.heap.size w0 w) (hps : ∀ x, (encs x).size = ps.size)
    (I : List α → World → Prop) (Ix : Code → List α → World → Prop) (hI : OwnFrom w.heap.size I) (hIx : ∀ c, OwnFrom w.heap.size (Ix c)) (hPr : ∀ pre x, OwnFrom w.heap.size (fun (_ : Unit) W => Pr pre x W)) (h0 : I [] w) (a₁ : α → Act)
    (hassign : ∀ (l : Nat) (x : α) (W : World) (K : Act → World → Prop), K (a₁ x) W →
      assign.wpIn (F.inRound l) (n - 1 - 1) P (Exit.then K (fun _ _ _ => False)) { tmps := (ps.zip (encs x)).foldl (fun t (p, v) => t.setIfInBounds p v) a.tmps, defers := [] } W)
    (hbody : ∀ (l : Nat) (pre : List α) (x : α) (W : World), I pre W → Pr pre x W → body.wpIn (F.inRound l) (n - 1 - 1) P (ownPostG w.heap.size Kp I Ix (pre ++ [x]) W) (a₁ x) W)
    (hdone : ∀ (D : Nat) (xs : List α) (W : World), w.heap.size ≤ D → S xs → I xs W → W.heap[D]? = some (.deferred (some [])) → Q .normal { a with defers := { target := .collected D, args := #[] } :: a.defers } W)
    (hstop : ∀ (D : Nat) (c : Code) (pre : List α) (W : World), w.heap.size ≤ D → Sp pre → Ix c pre W → W.heap[D]? = some (.deferred (some [])) → c.wpIn F n P Q { a with defers := { target := .collected D, args := #[] } :: a.defers } W) :
    (Code.rangeFunc g ps assign body).wpIn F n P Q a w := by
  refine wpIn_rangeFunc fun fn hfn => ?_
  rw [hro]
  obtain ⟨R, hR⟩ : ∃ R : LoopState → Option Code → Loop, R = fun st pe => { state := st, pending := pe, fn, tmps := a.tmps, params := ps, assign, body, defers := w.heap.size } := ⟨_, rfl⟩
  obtain ⟨W1, hW1⟩ : ∃ W1, W1 = (w.alloc (.deferred (some []))).alloc (.loop (R .ready none)) := ⟨_, rfl⟩
  have hat : LoopAt w.heap.size (R .ready none) W1 := by rw [hW1]; exact LoopAt.laid w _
  have hz : w.heap.size + 2 = W1.heap.size := by rw [hW1]; simp
  have hb1 : Below w0.heap.size w0 W1 := by
    rw [hW1]
    exact (hb0.alloc hb0.size _).alloc (by have := hb0.size; simp; omega) _
  have hI1 : I [] W1 := by rw [hW1]; exact hI.alloc _ (hI.alloc _ h0)
  have bare : ∀ {A : World} {row : Option Nat}, (∀ r, row = some r → W1.heap.size ≤ r ∧ ∃ o : Obj, A.heap[r]? = some o ∧ o.isWalk = true) → ∀ r, row = some r → w.heap.size ≤ r ∧ ∃ o : Obj, A.heap[r]? = some o ∧ o.isCells = false := fun hr r e => by
    obtain ⟨k1, o, k2, k3⟩ := hr r e
    exact ⟨by omega, o, k2, Obj.not_cells_of_walk k3⟩
  refine ⟨w.heap.size + 1, [{ target := .collected w.heap.size, args := #[] }], W1, { target := .fn (.func gf) lb, args := #[.func (.yield (w.heap.size + 1)) #[] #[]] }, W1, gf, #[.func (.yield (w.heap.size + 1)) #[] #[]] ++ lb, W1, ?_, ?_, ?_, ?_, fun _ => h1, ?_⟩
  · rw [hW1, hR]; exact run_enterLoop_outer _ _ _ _ _
  · simp only [resolve, hg]
    simp [go_sem]
  · intro f' hf'
    simp [Target.leads] at hf'
    subst hf'
    exact hFg
  · simp [invoke, go_sem, eg]
  have hcall := hseq (w.heap.size + 1) (fun pre W => I pre W ∧ LoopAt w.heap.size (R .ready none) W) (fun pre W => ∃ c, Ix c pre W ∧ LoopAt w.heap.size (R .done (some c)) W) W1 hb1
    (fun s A B row hs hgr hr => ⟨hI s A B row hs.1 hgr (bare hr), hs.2.grown hgr fun r e => (hr r e).2⟩)
    (fun s A B row ⟨c, hc, hl⟩ hgr hr => ⟨c, hIx c s A B row hc hgr (bare hr), hl.grown hgr fun r e => (hr r e).2⟩)
    ?_ ⟨hI1, hat⟩
  · refine hcall.mono ?_
    rintro e W2 ⟨⟨v, rfl⟩, h⟩
    have fin : ∀ st pe, st ≠ .busy → LoopAt w.heap.size (R st pe) W2 → (Instr.endLoop (w.heap.size + 1)).run P W2 = .ok pe (W2.putObj (w.heap.size + 1) (.loop (R .exhausted pe))) := fun st pe hst hl => by
      have := run_endLoop (P := P) hl.1 (by rw [hR]; exact hst)
      rw [hR] at this ⊢
      exact this
    rcases h with ⟨xs, hS, hi, hl⟩ | ⟨pre, hSp, c, hi, hl⟩
    · exact ⟨none, _, fin _ _ (by simp) hl, hdone _ xs _ (Nat.le_refl _) hS (hI.putObj _ hi (by omega) hl.1 rfl) (hl.put _).2⟩
    · exact ⟨some c, _, fin _ _ (by simp) hl, hstop _ c pre _ (Nat.le_refl _) hSp ((hIx c).putObj _ hi (by omega) hl.1 rfl) (hl.put _).2⟩
  rintro pre x W ⟨hi, hl⟩ hpr
  have hy := run_yield (P := P) (args := encs x) hl.1 (by rw [hR]; exact hps x)
  rw [hR] at hy
  have hl2 := hl.put (R .busy none)
  have hbeg : (Instr.beginRound (w.heap.size + 1)).run P W = .ok () (W.putObj (w.heap.size + 1) (.loop (R .busy none))) := by
    have := run_beginRound (P := P) hl.1 (by rw [hR])
    rw [hR] at this ⊢
    exact this
  have hk2 : Kp W (W.putObj (w.heap.size + 1) (.loop (R .busy none))) := hKb _ _ _ _ (by omega) hl.1 rfl rfl
  refine ⟨fn, _, assign, body, hy, roundIn_of_wpIn hfn (hassign _ x W _ ⟨_, hbeg, wpIn_mono (hbody _ pre x _ (hI.putObj _ hi (by omega) hl.1 rfl) ((hPr pre x).putObj (s := ()) _ hpr (by omega) hl.1 rfl)) ?_⟩)⟩
  have fin : ∀ (jump : Option Code) (W3 : World), KeepsFrom w.heap.size (W.putObj (w.heap.size + 1) (.loop (R .busy none))) W3 →
      (Instr.endRound (w.heap.size + 1) jump).run P W3 = .ok (.bool jump.isNone) (W3.putObj (w.heap.size + 1) (.loop (R (if jump.isNone then .ready else .done) jump))) ∧ LoopAt w.heap.size (R .busy none) W3 := fun jump W3 hk => by
    have h3 := hl2.kept hk
    have := run_endRound (P := P) jump h3.1
    refine ⟨?_, h3⟩
    rw [hR] at this ⊢
    exact this
  have out : ∀ (c : Code) (W3 : World), KeepsFrom w.heap.size (W.putObj (w.heap.size + 1) (.loop (R .busy none))) W3 → Ix c (pre ++ [x]) W3 → ∃ v w', (Instr.endRound (w.heap.size + 1) (some c)).run P W3 = .ok v w' ∧
      ((Ending.returned v = .returned (.bool true) ∧ (I (pre ++ [x]) w' ∧ LoopAt w.heap.size (R .ready none) w') ∧ Kp W w') ∨ (Ending.returned v = .returned (.bool false) ∧ ∃ c, Ix c (pre ++ [x]) w' ∧ LoopAt w.heap.size (R .done (some c)) w')) := fun c W3 hk hi3 => by
    obtain ⟨hr, hl3⟩ := fin (some c) W3 hk
    exact ⟨_, _, hr, .inr ⟨rfl, c, (hIx c).putObj _ hi3 (by omega) hl3.1 rfl, hl3.put _⟩⟩
  intro e a3 W3 hp
  cases e with
  | normal =>
    obtain ⟨hk3, hkp3, hi3⟩ := hp
    obtain ⟨hr, hl3⟩ := fin none W3 hk3
    exact ⟨_, _, hr, .inl ⟨rfl, ⟨hI.putObj _ hi3 (by omega) hl3.1 rfl, hl3.put _⟩, hKt (hKt hk2 hkp3) (hKb _ _ _ _ (by omega) hl3.1 rfl rfl)⟩⟩
  | ret => exact out .ret W3 hp.1 hp.2
  | exit id => exact out (.exit id) W3 hp.1 hp.2
  | goto t => exact out (.goto t) W3 hp.1 hp.2
  | panic ch => exact hp.elim
  | outgrown => exact hp.elim
end
end Go.Proofs.YtfibolkgpffjkaaGreatDoor
end

section
/- Package encode: Each: its iterator. -/
namespace Go.Proofs.YtfibolkgpffjkaaGreatDoor
open Go.RowKit Go.Extern.Stop Go.Stop Go.Extern

/-- What goes out: a number, and a symbol. -/
abbrev EsV : Type := Nat × Value
def encE (x : EsV) : Array Value := #[.int .i64 (x.1 : Int), x.2]
/-- The word on what is handed over: it is the next one, in memory of its own. -/
def PrE (at0 B0 l p sd size : Nat) (V : List (List Nat)) (pre : List EsV) (x : EsV) (W : World) : Prop :=
  x.1 = at0 + pre.length ∧ x.1 < 65536 ∧ W.ownsRow B0 5 1 x.2 size ((symE l p sd size V x.1).map byteV)
theorem PrE.from (at0 B0 l p sd size : Nat) (V : List (List Nat)) (pre : List EsV) (x : EsV) (m : Nat) : OwnFrom m (fun (_ : Unit) W => PrE at0 B0 l p sd size V pre x W) := by
  rintro _ X Y row ⟨h1, h2, h3⟩ hg hr
  exact ⟨h1, h2, own_bare h3 hg fun r e => (hr r e).2⟩
/-- What a round keeps for the iterator: its box, and all that lay ahead of it. -/
def KpE (be B : Nat) (W W' : World) : Prop := W'.heap[be]? = W.heap[be]? ∧ Below B W W'
theorem KpE.refl (be B : Nat) (W : World) : KpE be B W W := ⟨rfl, Below.refl _ _⟩
theorem KpE.trans {be B : Nat} {X Y Z : World} (h : KpE be B X Y) (k : KpE be B Y Z) : KpE be B X Z := ⟨k.1.trans h.1, h.2.trans k.2⟩
theorem KpE.book {be B : Nat} {w : World} (h1 : be < w.heap.size) (h2 : B ≤ w.heap.size) (W : World) (l : Nat) (o o' : Obj) (hl : w.heap.size ≤ l) (h : W.heap[l]? = some o) (hc : o.isCells = false) (hw : o.isWalk = false) : KpE be B W (W.putObj l o') :=
  ⟨World.putObj_heap_other (by omega), belowK_b h2 W l o o' hl h hc hw⟩
theorem KpE.of {be B : Nat} {W W' : World} (hb : Below W.heap.size W W') (h1 : be < W.heap.size) (h2 : B ≤ W.heap.size) : KpE be B W W' := ⟨hb.block be h1, hb.mono h2⟩
theorem abides_below {β : Type} {B : Nat} {J : β → World → Prop} (h : AbidesFrom B J) {s : β} {W W' : World} (hj : J s W) (hb : Below W.heap.size W W') : J s W' :=
  h s W W' none hj ⟨hb.os, hb.tape, hb.output, hb.size, fun j hj _ => hb.block j hj⟩ (fun r e => by cases e)
/-- How far the iterator goes. -/
def EndE (at0 : Nat) (xs : List EsV) : Prop := 65536 ≤ at0 + xs.length ∧ (xs = [] ∨ at0 + xs.length ≤ 65536)

section
open Go.Shelf
attribute [local go_sem] Oper.semAt_some

set_option maxRecDepth 1000000 in
set_option maxHeartbeats 4000000 in
theorem each1_in (n : Nat) (_hn : 1 ≤ n) (lp be bf B1 : Nat) {w0 : World} {B g k s h l p sd size : Nat} {vm : Value} {V M : List (List Nat)} (hE : EncAt w0 B g k s h l p sd size vm V M) (hT : DgTab w0) (f : Int) (at0 : Nat) (hf : max f 0 = (at0 : Int)) (hat : at0 ≤ 9223372036854775807) (J Jx : List EsV → World → Prop)
    (W : World) (hB1 : B1 ≤ W.heap.size) (hJ : AbidesFrom W.heap.size J)
    (hY : ∀ pre x V', J pre V' → PrE at0 B1 l p sd size V pre x V' → YieldAt Fence.wide (n - 1) Tryz.prog lp (encE x) V' fun e W' =>
      (e = .returned (.bool true) ∧ J (pre ++ [x]) W' ∧ KpE be w0.heap.size V' W') ∨ (e = .returned (.bool false) ∧ Jx (pre ++ [x]) W'))
    (hbe : Boxed W be 27 (.pointer (some ⟨g, 0, none⟩))) (hbf : Boxed W bf 3 (.int .i64 f)) (hbw : Below w0.heap.size w0 W) (h0 : J [] W) :
    CallsIn Fence.wide n Tryz.prog 39 #[.func (.yield lp) #[] #[], .pointer (some ⟨bf, 0, none⟩), .pointer (some ⟨be, 0, none⟩)] W fun e W' => (∃ v, e = .returned v) ∧
      ((∃ xs : List EsV, EndE at0 xs ∧ J xs W') ∨ (∃ pre : List EsV, 0 < pre.length ∧ Jx pre W')) := by
  have HJ := Lib.hid hJ
  have HE := Lib.hid hE
  have HT := Lib.hid hT
  have HBE := Lib.hid hbe
  have HBW := Lib.hid hbw
  have HJ0 := Lib.hid h0
  have hcf := hbf.cell
  have hbl := hbe.lt
  clear hJ hE hT hbe hbw hbf h0
  refine callsIn_of_wp Tryz.func39 rfl trivial ?_ rfl
  simp only [Tryz.ntmps39, List.size_toArray, List.length_cons, List.length_nil, Nat.reduceAdd, Nat.reduceSub, Array.replicate_succ, Array.replicate_zero, List.push_toArray, List.append_toArray, List.nil_append, List.cons_append]
  gi_wp2
  gi_loopw [4] (fun i wr => ∃ (m : Nat) (pre : List EsV), i = .int .i64 m ∧ m = at0 + pre.length ∧ (pre = [] ∨ m ≤ 65536) ∧ J pre wr ∧ KpE be w0.heap.size W wr ∧ B1 ≤ wr.heap.size) (fun i _ => 65536 - (intOf i).toNat)
  case atStart => exact ⟨at0, [], rfl, rfl, .inl rfl, HJ0.out, KpE.refl _ _ _, hB1⟩
  case round =>
    obtain ⟨m, pre, rfl, hm, hpm, hJs, hkp, hz1⟩ := hrel
    have HM := Lib.hid hm
    have HJS := Lib.hid hJs
    have HKP := Lib.hid hkp
    have hbw' := HBW.out.trans hkp.2
    have hc2 : wr.cell? ⟨be, 0, none⟩ = some (.pointer (some ⟨g, 0, none⟩)) := (World.cell?_of_block (w := W) (a := ⟨be, 0, none⟩) hkp.1).trans HBE.out.cell
    have hbr : be < wr.heap.size := World.block_lt_of_cell? wr _ hc2
    have hz0 := hbw'.size
    by_cases hlt : m < 65536
    · have d1 : decide ((m : Int) < 65536) = true := decide_eq_true (by omega)
      have HSY := Lib.hid (EnSym_ok (HE.out.mono hbw') m hlt (PairsAt.mono HT.out hbw'))
      clear hm hpm hJs hkp hbw' hcf
      gi_wp2_with fail
      refine ⟨trivial, ?_⟩
      gi_at_call 14
      refine (callsIn_wide.2 HSY.out).mono ?_
      rintro e w1 ⟨v1, rfl, ho1, hb1⟩
      have HB1 := Lib.hid hb1
      have hJ1 : J pre w1 := abides_below HJ.out (abides_below HJ.out HJS.out (Below.refl _ _)) (hb1.mono (Nat.le_refl _))
      obtain ⟨fn, tmps, assign, body, hy, hR⟩ := hY pre (m, v1) w1 hJ1 ⟨HM.out, hlt, ownsRow_base ho1 hz1⟩
      have HRR := Lib.hid hR
      unfold encE at hy
      dsimp only at hy
      clear hc2 ho1 hb1 hJ1 hR
      gi_wp2_with fail
      refine HRR.out.mono ?_
      rintro e W3 (⟨rfl, hJ3, hk3⟩ | ⟨rfl, hJx3⟩)
      · have HJ3 := Lib.hid hJ3
        have HK3 := Lib.hid (KpE.trans HKP.out (KpE.trans (KpE.of HB1.out hbr hz0) hk3))
        have hz3 : B1 ≤ W3.heap.size := Nat.le_trans hz1 (Nat.le_trans HB1.out.size hk3.2.size)
        clear hJ3 hk3
        gi_wp2
        go_roundw
        case rel => exact ⟨m + 1, _, by go_num, by rw [List.length_append, HM.out]; rfl, .inr (by omega), HJ3.out, HK3.out, hz3⟩
        case measure => simp [intOf]; omega
      · have HJ3 := Lib.hid hJx3
        clear hJx3
        gi_wp2
        refine bodyPost_ret (results_none rfl _ _ _) rfl ?_
        exact ⟨⟨_, rfl⟩, .inr ⟨_, by simp, HJ3.out⟩⟩
    · have HS : Hid (EndE at0 pre) := Lib.hid ⟨by omega, by
        rcases hpm with h | h
        · exact .inl h
        · exact .inr (by omega)⟩
      have d1 : decide ((m : Int) < 65536) = false := decide_eq_false (by omega)
      clear hm hpm hJs hkp hbw' hc2 hcf
      gi_wp2
      go_end0
      exact ⟨⟨_, rfl⟩, .inl ⟨pre, HS.out, HJS.out⟩⟩

/-- The contract of what Each makes. -/
theorem each_pre (n : Nat) (hn : 1 ≤ n) (be bf : Nat) {w0 w1 : World} {B g k s h l p sd size : Nat} {vm : Value} {V M : List (List Nat)} (hE : EncAt w0 B g k s h l p sd size vm V M) (hT : DgTab w0) (f : Int) (at0 : Nat) (hf : max f 0 = (at0 : Int)) (hat : at0 ≤ 9223372036854775807)
    (hbe : Boxed w1 be 27 (.pointer (some ⟨g, 0, none⟩))) (hbf : Boxed w1 bf 3 (.int .i64 f)) (hb : Below w0.heap.size w0 w1) :
    SeqPre Fence.wide n Tryz.prog 39 #[.pointer (some ⟨bf, 0, none⟩), .pointer (some ⟨be, 0, none⟩)] encE (PrE at0 w1.heap.size l p sd size V) (KpE be w0.heap.size) (EndE at0) (fun pre => 0 < pre.length) w1 :=
  fun lp J Jx W hW hJ _ hY h0 => each1_in n hn lp be bf w1.heap.size hE hT f at0 hf hat J Jx W hW.size hJ hY ((hW.block be hbe.lt).trans hbe) ((hW.block bf hbf.lt).trans hbf) (hb.trans (hW.mono hb.size)) h0

set_option maxRecDepth 1000000 in
set_option maxHeartbeats 1000000 in
/-- Over a nil encoder it goes over nothing. -/
theorem each1_nil (n : Nat) (_hn : 1 ≤ n) (lp be bf : Nat) (f : Int) (J : List EsV → World → Prop) (W : World) (hJ : AbidesFrom W.heap.size J)
    (hbe : Boxed W be 27 (.pointer none)) (hbf : Boxed W bf 3 (.int .i64 f)) (h0 : J [] W) :
    CallsIn Fence.wide n Tryz.prog 39 #[.func (.yield lp) #[] #[], .pointer (some ⟨bf, 0, none⟩), .pointer (some ⟨be, 0, none⟩)] W fun e W' => (∃ v, e = .returned v) ∧ J [] W' := by
  have HJ := Lib.hid hJ
  have HJ0 := Lib.hid h0
  have hcf := hbf.cell
  have hce := hbe.cell
  clear hJ hbe hbf h0
  obtain ⟨at0, hat⟩ : ∃ at0 : Nat, max f 0 = (at0 : Int) := ⟨(max f 0).toNat, by omega⟩
  refine callsIn_of_wp Tryz.func39 rfl trivial ?_ rfl
  simp only [Tryz.ntmps39, List.size_toArray, List.length_cons, List.length_nil, Nat.reduceAdd, Nat.reduceSub, Array.replicate_succ, Array.replicate_zero, List.push_toArray, List.append_toArray, List.nil_append, List.cons_append]
  gi_wp2
  gi_loopw [4] (fun i wr => i = .int .i64 at0 ∧ W = wr) (fun i _ => 0)
  case atStart => exact ⟨rfl, rfl⟩
  case round =>
    obtain ⟨rfl, rfl⟩ := hrel
    by_cases hlt : at0 < 65536
    · have d1 : decide ((at0 : Int) < 65536) = true := decide_eq_true (by omega)
      gi_wp2_with fail
      refine ⟨trivial, ?_⟩
      gi_at_call 14
      refine (callsIn_wide.2 (EnSym_nil at0)).mono ?_
      rintro e w1 ⟨E, rfl, hea, hb1⟩
      have hJ1 := Lib.hid (abides_below HJ.out HJ0.out hb1)
      obtain ⟨u, x, rfl⟩ := hea.some (by decide)
      clear hea hb1 hcf hce
      gi_wp2
      refine ⟨fun _ _ => trivial, ?_⟩
      gi_wp2
      refine bodyPost_ret (results_none rfl _ _ _) rfl ?_
      exact ⟨⟨_, rfl⟩, hJ1.out⟩
    · have d1 : decide ((at0 : Int) < 65536) = false := decide_eq_false (by omega)
      clear hcf hce
      gi_wp2
      go_end0
      exact ⟨⟨_, rfl⟩, HJ0.out⟩
theorem each_nil (n : Nat) (hn : 1 ≤ n) (be bf : Nat) (w1 : World) (f : Int) (hbe : Boxed w1 be 27 (.pointer none)) (hbf : Boxed w1 bf 3 (.int .i64 f)) :
    SeqPre Fence.wide n Tryz.prog 39 #[.pointer (some ⟨bf, 0, none⟩), .pointer (some ⟨be, 0, none⟩)] encE (fun _ _ _ => False) (fun _ _ => True) (fun xs => xs = []) (fun _ => False) w1 :=
  fun lp J _ W hW hJ _ _ h0 => (each1_nil n hn lp be bf f J W hJ ((hW.block be hbe.lt).trans hbe) ((hW.block bf hbf.lt).trans hbf) h0).mono fun _ _ ⟨h1, h2⟩ => ⟨h1, .inl ⟨[], rfl, h2⟩⟩

set_option maxHeartbeats 1000000 in
theorem each_in (n : Nat) (E : Option Addr) (f : Int) (w : World) :
    CallsIn Fence.wide n Tryz.prog 21 #[.pointer E, .int .i64 f] w fun e w' => e = .returned (.func (.func 39) #[] #[.pointer (some ⟨w.heap.size + 1, 0, none⟩), .pointer (some ⟨w.heap.size, 0, none⟩)]) ∧
      w' = (w.alloc (.cells #[.pointer E] 27)).alloc (.cells #[.int .i64 f] 3) := by
  refine callsIn_of_wp Tryz.func21 rfl trivial ?_ rfl
  simp only [Tryz.ntmps21, List.size_toArray, List.length_cons, List.length_nil, Nat.reduceAdd, Nat.reduceSub, Array.replicate_succ, Array.replicate_zero, List.push_toArray, List.append_toArray, List.nil_append, List.cons_append]
  gi_wp2
  go_ret
  exact ⟨rfl, rfl⟩
theorem each_boxes (E : Option Addr) (f : Int) (w : World) : Boxed ((w.alloc (.cells #[.pointer E] 27)).alloc (.cells #[.int .i64 f] 3)) w.heap.size 27 (.pointer E) ∧ Boxed ((w.alloc (.cells #[.pointer E] 27)).alloc (.cells #[.int .i64 f] 3)) (w.heap.size + 1) 3 (.int .i64 f) := by
  have h1 := (Boxed.new w 27 (.pointer E)).alloc (.cells #[.int .i64 f] 3)
  have h2 := Boxed.new (w.alloc (.cells #[.pointer E] 27)) 3 (.int .i64 f)
  rw [World.size_alloc] at h2
  exact ⟨h1, h2⟩
end
theorem equalIn_func_nil {P : Program} (w : World) (d : Nat) {t : TypeId} {x y z} (fn : Fn) (a b : Array Value) (h : P.underlying t = some (.func x y z)) :
    (Op.equalIn (d + 1) t (.func fn a b) .nilFunc).run P w = .ok false w := by
  simp [Op.equalIn, run_underlying h]
theorem eql_func_nil {P : Program} (w : World) {t : TypeId} {x y z} (fn : Fn) (a b : Array Value) (h : P.underlying t = some (.func x y z)) :
    (binOp .eql t (.func fn a b) .nilFunc).run P w = .ok (.bool false) w := by
  simp only [binOp]
  simp [Op.equal, Op.maxDepth, equalIn_func_nil w 9999 fn a b h]
/-- What Each makes is never nil. -/
theorem eql_seq_nil (w : World) (fn : Fn) (a b : Array Value) : (binOp .eql 53 (.func fn a b) .nilFunc).run Tryz.prog w = .ok (.bool false) w :=
  eql_func_nil w fn a b Tryz.underlying53
end Go.Proofs.YtfibolkgpffjkaaGreatDoor
end
