import Derived.Maps.AppendAt
import Derived.StillTactics
import Derived.Test.YtkfimdpcadbcpaaGreatDoorA20
import Derived.Test.YtkfimdpcadbcpaaGreatDoorA09
import Derived.Test.YtkfimdpcadbcpaaGreatDoorA15
import Derived.Test.YtkfimdpcadbcpaaGreatDoorA19
import Derived.Test.YtkfimdpcadbcpaaGreatDoorA01
set_option linter.unusedSimpArgs false
set_option linter.unusedVariables false
set_option maxRecDepth 1000000
set_option maxHeartbeats 8000000
namespace Go.Proofs.YtkfimdpcadbcpaaGreatDoor
section
open Go.RowKit Go.Extern.Stop Go.Stop Go.Extern
theorem zCs {F : Fence} {d : Nat} {P : Program} (w : World) {ops : Array Oper} {rest : List Oper} {o : Oper} {a : Act} {Q : Exit → Act → World → Prop}
    (hg : o.guard = none) (l c : Operand) (t : TypeId) (hop : o.op = Op.makeSlice t l c)
    (base : Nat) (e : TypeId) (i : TypeInfo) (z : Value) (size : Nat) (h1 : P.underlying t = some (.slice e)) (h2 : P.info? e = some i) (h3 : i.zero = some z) (h4 : i.size = size)
    (kl kc : IntKind) (L C : Int) (n : Nat) (hl : a.eval l = .int kl L) (hc : a.eval c = .int kc C) (hL : L = (n : Int)) (hC : C = (n : Int)) (b2 : i.bytes * n ≤ 281474976710656) (b3 : n ≤ maxLen) (b4 : base ≤ w.heap.size)
    (hK : ∀ w', w'.ownsRow base e size (.slice (some ⟨w.heap.size, 0, none⟩) n n) n (madeCells z.cells (n * size)).toList → w.grownBy w' none → wpListIn F d P ops Q rest (a.put o.dst (.slice (some ⟨w.heap.size, 0, none⟩) n n)) w') :
    wpListIn F d P ops Q (o :: rest) a w := by
  refine wpListIn_plain hg fun K hK' => ?_
  obtain ⟨w', hrun, r1, r2⟩ := run_make_full (P := P) w base t e i z size h1 h2 h3 h4 kl kc n b2 b3 b4
  subst hL
  subst hC
  unfold Oper.wpIn
  refine ⟨?_, ?_⟩
  · simp [Oper.about, hop]
  · rw [Oper.semAt_plain F _ _ (by rw [hop]; intro c hc'; cases hc')]
    simp [execOp, hop, hl, hc, hrun, Result.andThen]
    exact hK' _ _ (hK w' r1 r2)
structure AllM (w W : World) (b kb n size gv bv : Nat) (f : Nat → Option Eqn) (rv sv : Nat → Value) (vals : List Value) : Prop where
  sys : SysM W b kb n size f rv sv false
  box : AllBox w W (sysP b)
  vbox : W.heap[bv]? = some (.cells #[.slice (some ⟨gv, 0, none⟩) n n] 96 (0, 0))
  own : W.ownsRow w.heap.size 31 1 (.slice (some ⟨gv, 0, none⟩) n n) n vals
section
variable {w W W' : World} {b kb n size gv bv : Nat} {f : Nat → Option Eqn} {rv sv : Nat → Value} {vals : List Value}
theorem SysM.full {cl : Bool} (h : SysM W b kb n size f rv sv cl) (hf : cntF f n = n) {c : Nat} (hc : c < n) : ∃ q ar cr ay cy, f c = some q ∧ rv c = .slice ar (kOf n) cr ∧ sv c = .slice ay size cy ∧
    OwnRow wordV 258 W (rv c) (kOf n) q.1 ∧ OwnRow byteV 5 W (sv c) size q.2 ∧ EqOk n size q ∧ Lead (bitW q.1) c := by
  obtain ⟨q, hq⟩ := Option.isSome_iff_exists.1 (zER hf c hc)
  have hp := h.place c hc
  rw [hq] at hp
  obtain ⟨ar, cr, e1, -, -⟩ := zAe hp.1
  obtain ⟨ay, cy, e2, -, -⟩ := zAe hp.2.1
  exact ⟨q, ar, cr, ay, cy, hq, e1, e2, hp⟩
theorem AllM.mono (h : AllM w W b kb n size gv bv f rv sv vals) (hb : Below W.heap.size W W') : AllM w W' b kb n size gv bv f rv sv vals :=
  ⟨h.sys.mono hb, h.box.mono hb, (hb.block _ (Array.getElem?_eq_some_iff.1 h.vbox).1).trans h.vbox, zAp h.own fun g _ hg => hb.block g (Array.getElem?_eq_some_iff.1 hg).1⟩
theorem AllM.gheap (h : AllM w W b kb n size gv bv f rv sv vals) : ∃ cur, W.heap[gv]? = some (.cells cur 31 (0, 0)) := by
  rcases h.own.2 with ⟨e1, _⟩ | ⟨g, cap, cur, e1, _, h3, _⟩
  · cases e1
  · have : gv = g := by simpa [Value.ownBlock] using congrArg Value.ownBlock e1
    rw [this]; exact ⟨cur, h3⟩
theorem AllM.set (h : AllM w W b kb n size gv bv f rv sv vals) (c : Nat) (u : Value) : AllM w (W.setCell ⟨gv, c, none⟩ u) b kb n size gv bv f rv sv (vals.set c u) := by
  obtain ⟨cur, hg⟩ := h.gheap
  have hgl : w.heap.size ≤ gv := (h.own.lt gv rfl).1
  have key : ∀ {x : Nat} {cu : Array Value} {t : TypeId}, t ≠ 31 → W.heap[x]? = some (.cells cu t (0, 0)) → (W.setCell ⟨gv, c, none⟩ u).heap[x]? = W.heap[x]? := fun {x cu t} ht hx => Below.heap_setCell _ _ _ _ (by
    intro e1
    rw [show x = gv from e1, hg] at hx
    simp at hx
    exact ht hx.2.symm)
  obtain ⟨ck, hk⟩ := h.sys.kobj
  refine ⟨h.sys.same (key (by decide) h.sys.obj) (key (by decide) hk) fun g e cu he hx => key (by rcases he with rfl | rfl <;> decide) hx, ⟨h.box.bel.setCell (p := ⟨gv, c, none⟩) hgl _, by simpa [World.setCell] using h.box.lt, (key (by decide) h.box.h0).trans h.box.h0, (key (by decide) h.box.h1).trans h.box.h1, (key (by decide) h.box.h2).trans h.box.h2⟩, (key (by decide) h.vbox).trans h.vbox, (h.own.stored c u).1⟩
end
section
variable {w W W' : World} {b kb n size gv bv Bs : Nat} {f : Nat → Option Eqn} {rv sv : Nat → Value} {vals : List Value}
theorem AllM.keep (h : AllM w W b kb n size gv bv f rv sv vals) (hk : ∀ (x : Nat) (cu : Array Value) (t : TypeId) (z : Nat × Nat), W.heap[x]? = some (Obj.cells cu t z) → W'.heap[x]? = W.heap[x]?) (hb : Below w.heap.size w W') (hz : W.heap.size ≤ W'.heap.size) : AllM w W' b kb n size gv bv f rv sv vals := by
  obtain ⟨ck, hkk⟩ := h.sys.kobj
  exact ⟨h.sys.same (hk _ _ _ _ h.sys.obj) (hk _ _ _ _ hkk) fun g e cu _ hx => hk _ _ _ _ hx, ⟨hb, Nat.lt_of_lt_of_le h.box.lt hz, (hk _ _ _ _ h.box.h0).trans h.box.h0, (hk _ _ _ _ h.box.h1).trans h.box.h1, (hk _ _ _ _ h.box.h2).trans h.box.h2⟩,
    (hk _ _ _ _ h.vbox).trans h.vbox, zAp h.own fun g cu hx => hk _ _ _ _ hx⟩
def AllI (w : World) (b kb n size gv bv Bs : Nat) (f : Nat → Option Eqn) (rv sv : Nat → Value) (pre : List (Fin n)) (W : World) : Prop :=
  ∃ (vals : List Value) (V : List (List Nat)), AllM w W b kb n size gv bv f rv sv vals ∧ Boxed W Bs 240 (.slice (some ⟨kb, 0, none⟩) n n) ∧ vals.length = n ∧ V.length = n ∧
    (∀ c, c < n → OwnRow byteV 5 W (vals.getD c nilS) size (V.getD c []) ∧ Octets (V.getD c []) ∧ (V.getD c []).length = size) ∧
    (pre.map (·.1) = dnN n pre.length → ∀ c, c < n → (n - pre.length ≤ c → (∃ x, ValV n (stL (uF f n) n) c x ∧ V.getD c [] = symV n size x) ∧ ∀ g, (vals.getD c nilS).ownBlock = some g → w.heap.size ≤ g) ∧ (c < n - pre.length → ∀ q, f c = some q → V.getD c [] = q.2))
theorem AllI.keep {pre : List (Fin n)} (h : AllI w b kb n size gv bv Bs f rv sv pre W) (hk : ∀ (x : Nat) (cu : Array Value) (t : TypeId) (z : Nat × Nat), W.heap[x]? = some (Obj.cells cu t z) → W'.heap[x]? = W.heap[x]?) (hb : Below w.heap.size w W') (hz : W.heap.size ≤ W'.heap.size) : AllI w b kb n size gv bv Bs f rv sv pre W' := by
  obtain ⟨vals, V, h1, h2, h3, h4, h5, h6⟩ := h
  exact ⟨vals, V, h1.keep hk hb hz, (hk _ _ _ _ h2).trans h2, h3, h4, fun c hc => ⟨zAp (h5 c hc).1 fun g cu hx => hk _ _ _ _ hx, (h5 c hc).2⟩, h6⟩
theorem AllI.bel {pre : List (Fin n)} (h : AllI w b kb n size gv bv Bs f rv sv pre W) : Below w.heap.size w W := by obtain ⟨vals, V, h1, -⟩ := h; exact h1.box.bel
theorem zE1 {X Y : World} {row : Option Nat} (hg : X.grownBy Y row) (hr : ∀ r, row = some r → ∃ o : Obj, X.heap[r]? = some o ∧ o.isCells = false) : ∀ (x : Nat) (cu : Array Value) (t : TypeId) (z : Nat × Nat), X.heap[x]? = some (Obj.cells cu t z) → Y.heap[x]? = X.heap[x]? :=
  fun x cu t z hx => hg.block x (Array.getElem?_eq_some_iff.1 hx).1 (fun e => by obtain ⟨o, ho, hc⟩ := hr x e.symm; rw [hx] at ho; cases ho; cases hc)
theorem AllI.from {m : Nat} (hm : w.heap.size ≤ m) : OwnFrom m (AllI w b kb n size gv bv Bs f rv sv) := by
  rintro pre X Y row h hg hr
  exact h.keep (zE1 hg fun r e => (hr r e).2) (h.bel.grown hg h.bel.size (fun r e => Nat.le_trans hm (hr r e).1)) hg.size
theorem AllI.below {pre : List (Fin n)} (h : AllI w b kb n size gv bv Bs f rv sv pre W) (hb : Below W.heap.size W W') : AllI w b kb n size gv bv Bs f rv sv pre W' :=
  h.keep (fun x _ _ _ hx => hb.block x (Array.getElem?_eq_some_iff.1 hx).1) (h.bel.trans (hb.mono h.bel.size)) hb.size
theorem zJ6 (h : AllM w W b kb n size gv bv f rv sv (fillTo sv nilS n n)) (hB : Boxed W Bs 240 (.slice (some ⟨kb, 0, none⟩) n n)) (hf : cntF f n = n) : AllI w b kb n size gv bv Bs f rv sv [] W := by
  refine ⟨_, (List.range n).map fun c => match f c with | some q => q.2 | none => [], h, hB, zAI _ _ _ _, by simp, fun c hc => ?_, fun _ c hc => ⟨fun h0 => by simp at h0; omega, fun _ q hq => ?_⟩⟩
  · obtain ⟨q, ar, cr, ay, cy, e0, e1, e2, e3, e4, e5, e6⟩ := h.sys.full hf hc
    have ev : (fillTo sv nilS n n).getD c nilS = sv c := by rw [zCu, zCj, if_pos hc]
    have eV : ((List.range n).map fun c => match f c with | some q => q.2 | none => []).getD c [] = q.2 := by
      rw [List.getD_eq_getElem?_getD, List.getElem?_map, List.getElem?_range hc]
      simp [e0]
    rw [ev, eV]
    exact ⟨e4, e5.2.2.2.2, e5.2.2.2.1⟩
  · rw [List.getD_eq_getElem?_getD, List.getElem?_map, List.getElem?_range hc]
    simp [hq]
theorem AllM.away (h : AllM w W b kb n size gv bv f rv sv vals) {x : Nat} {cu : Array Value} {t : TypeId} (ht : t ≠ 31) (hx : W.heap[x]? = some (Obj.cells cu t (0, 0))) (c : Nat) (u : Value) : (W.setCell ⟨gv, c, none⟩ u).heap[x]? = W.heap[x]? := by
  obtain ⟨cur, hg⟩ := h.gheap
  exact Below.heap_setCell _ _ _ _ (by
    intro e1
    rw [show x = gv from e1, hg] at hx
    simp at hx
    exact ht hx.2.symm)
theorem zKS {e : TypeId} {v : Value} {k B : Nat} {xs : List Value} (h : W.ownsRow B e 1 v k xs) : W.ownsRow 0 e 1 v k xs := by
  refine ⟨h.1, ?_⟩
  rcases h.2 with h1 | ⟨g, cap, cur, h1, _, h3⟩
  · exact .inl h1
  · exact .inr ⟨g, cap, cur, h1, Nat.zero_le _, h3⟩
theorem zLn {pre : List (Fin n)} {c B : Nat} {q : Eqn} (hc : c < n) (hq : f c = some q) (hl : Lead (bitW q.1) c) (hqo : EqOk n size q) (h : AllM w W b kb n size gv bv f rv sv vals) (hBx : Boxed W Bs 240 (.slice (some ⟨kb, 0, none⟩) n n)) {V : List (List Nat)} (hvl : vals.length = n) (hVl : V.length = n)
    (hrow : ∀ c, c < n → OwnRow byteV 5 W (vals.getD c nilS) size (V.getD c []) ∧ Octets (V.getD c []) ∧ (V.getD c []).length = size)
    (hval : pre.map (·.1) = dnN n pre.length → ∀ c, c < n → (n - pre.length ≤ c → (∃ x, ValV n (stL (uF f n) n) c x ∧ V.getD c [] = symV n size x) ∧ ∀ g, (vals.getD c nilS).ownBlock = some g → w.heap.size ≤ g) ∧ (c < n - pre.length → ∀ q, f c = some q → V.getD c [] = q.2))
    (hlt : pre.length < n) {u : Value} (hb : Below W.heap.size W W') (hu : OwnRow byteV 5 W' u size (sumS size (pickTo q.1 V n))) (hub : ∀ g, u.ownBlock = some g → w.heap.size ≤ g) :
    KeepsFrom B W (W'.setCell ⟨gv, c, none⟩ u) ∧ KpB Bs kb W (W'.setCell ⟨gv, c, none⟩ u) ∧ AllI w b kb n size gv bv Bs f rv sv (pre ++ [⟨c, hc⟩]) (W'.setCell ⟨gv, c, none⟩ u) := by
  have h' := h.mono hb
  have hBx' : W'.heap[Bs]? = some (.cells #[.slice (some ⟨kb, 0, none⟩) n n] 240 (0, 0)) := (hb.block _ (Array.getElem?_eq_some_iff.1 (show W.heap[Bs]? = _ from hBx)).1).trans hBx
  obtain ⟨ck, hkk⟩ := h'.sys.kobj
  obtain ⟨cur, hg⟩ := h'.gheap
  have a1 := h'.away (by decide) hBx' c u
  have a2 := h'.away (by decide) hkk c u
  refine ⟨(KeepsOthers.trans ⟨hb.size, fun k o hk _ => (hb.block k (Array.getElem?_eq_some_iff.1 hk).1).trans hk⟩ (KeepsOthers.setCell _ _ _)).from _, ⟨a1.trans (hBx'.trans hBx.symm), a2.trans (hb.block _ h.sys.klt)⟩, vals.set c u, V.set c (sumS size (pickTo q.1 V n)), h'.set c u, a1.trans hBx', by simp [hvl], by simp [hVl], fun d hd => ?_, fun hg2 d hd => ?_⟩
  · rw [zAU _ _ _ _ _ (by omega), zAU _ _ _ _ _ (by omega)]
    by_cases e : d = c
    · rw [if_pos e, if_pos e]
      refine ⟨zAJ hu hg (by decide) c u, zBT (fun r hr => ?_) _, zAr _ _⟩
      obtain ⟨k, hk, rfl⟩ := List.mem_map.1 hr
      exact (hrow k (zNh.1 hk).1).2.1
    · rw [if_neg e, if_neg e]
      exact ⟨zAJ (zAp (hrow d hd).1 fun g _ hx => hb.block g (Array.getElem?_eq_some_iff.1 hx).1) hg (by decide) c u, (hrow d hd).2⟩
  · obtain ⟨g1, g2⟩ := zIx hg2
    have g3 : c = n - 1 - pre.length := g2
    have hv := hval g1
    rw [List.length_append, zAU V c d _ _ (by omega), zAU vals c d _ _ (by omega)]
    refine ⟨fun h1 => ?_, fun h1 => ?_⟩
    · by_cases e : d = c
      · rw [if_pos e, if_pos e, e]
        exact ⟨zKP hqo hl hc (.mem (mem_stL.2 ⟨c, hc, zGt hq⟩)) ((hv c hc).2 (by omega) q hq) fun k hk1 hk2 => ((hv k hk2).1 (by omega)).1, hub⟩
      · rw [if_neg e, if_neg e]
        simp at h1
        exact (hv d hd).1 (by omega)
    · simp at h1
      rw [if_neg (by omega)]
      exact (hv d hd).2 (by omega)
theorem zHV {ws : List Nat} {n : Nat} (h : ∀ c, n ≤ c → bitW ws c = false) : behindB ws n = false := by
  have h1 : colsTo ws (64 * ws.length + n) = colsOf ws := zBy ws (64 * ws.length) n fun c h _ => zBl ws c h
  have h2 : colsTo ws (n + 64 * ws.length) = colsTo ws n := zBy ws n (64 * ws.length) fun c hc _ => h c hc
  rw [Nat.add_comm] at h1
  unfold behindB
  rw [← h1, h2]
  simp
end
section
open Go.Shelf
attribute [local go_sem] Oper.semAt_some
theorem zJE {w : World} (b kb n size : Nat) (f : Nat → Option Eqn) (rv sv : Nat → Value) (hs : SysM w b kb n size f rv sv false) (hfull : cntF f n = n) :
    Calls Tryz.prog 125 #[sysP b] w fun e w' => ∃ v' V, e = .returned (.tuple #[v', .nilIface]) ∧ MatFresh byteV 5 w.heap.size 31 w' v' V ∧ V.length = n ∧ (∀ c, c < n → ∃ x, ValV n (stL (uF f n) n) c x ∧ V.getD c [] = symV n size x) ∧ Below w.heap.size w w' := by
  have h1 : (1 : Nat) ≤ 3 := by omega
  obtain ⟨w0, hw0, hbx⟩ := zLB w (sysP b)
  have HBX := lhd hbx
  have HW0 := lhd hw0
  have hlt := hs.lt
  obtain ⟨k0, k1, k2, k3, k4⟩ := hs.cells
  rw [hfull] at k3
  have HS := lhd hs
  have HC0 := lhd ((hbx.bel.cell (p := ⟨b, 0, none⟩) hlt).trans k0)
  have HC1 := lhd ((hbx.bel.cell (p := ⟨b, 1, none⟩) hlt).trans k1)
  have HC2 := lhd ((hbx.bel.cell (p := ⟨b, 2, none⟩) hlt).trans k2)
  have HC3 := lhd ((hbx.bel.cell (p := ⟨b, 3, none⟩) hlt).trans k3)
  have HC4 := lhd ((hbx.bel.cell (p := ⟨b, 4, none⟩) hlt).trans k4)
  have hc0 := zAa (j := 0) (u := sysP b) hbx.h0 rfl
  have HF := lhd hfull
  clear hw0 hbx hs k0 k1 k2 k3 k4 hfull
  refine (callsIn_wide (n := 3)).1 ?_
  refine callsIn_of_wp_marks Tryz.func125 rfl trivial ?_ rfl
  simp only [Tryz.ntmps125, List.size_toArray, List.length_cons, List.length_nil, Nat.reduceAdd, Nat.reduceSub, Array.replicate_succ, Array.replicate_zero, List.push_toArray, List.append_toArray, List.nil_append, List.cons_append]
  gi_wp2_with fail
  rw [← HW0.out]
  refine ⟨trivial, ?_⟩
  gi_at_call 157
  refine (callsIn_wide.2 (zEC b false HC4.out)).mono ?_
  rintro e w1 ⟨rfl, rfl⟩
  gi_wp2_with fail
  refine ⟨trivial, ?_⟩
  gi_at_call 158
  refine (callsIn_wide.2 (zGc b n n false HC0.out HC3.out HC4.out)).mono ?_
  rintro e w1 ⟨rfl, hb1⟩
  have HBX1 := lhd (HBX.out.mono hb1)
  have HS1 := lhd (HS.out.mono (HBX1.out.bel.mono (Nat.le_refl _)))
  rw [decide_eq_true rfl]
  simp only [Bool.not_false, Bool.and_true]
  obtain ⟨k0, -, k2, -, -⟩ := HS1.out.cells
  have hc1 := zAa (j := 0) (u := sysP b) HBX1.out.h0 rfl
  have hn1 : 1 ≤ n := HS1.out.num.1
  have hn2 : n ≤ 4096 := HS1.out.num.2.1
  clear hc0 hb1
  obtain ⟨i0, hi, hz0, hz1, hz2⟩ := info_parts zB5
  gi_wp2_with (gi_at_make; refine zCs _ rfl _ _ 96 rfl w.heap.size 31 i0 (.slice none 0 0) 1 Tryz.underlying96 hi hz0 hz1 .i64 .i64 _ _ n rfl rfl rfl rfl (by rw [hz2]; omega) (by unfold maxLen; omega) (by have := HBX1.out.lt; omega) ?_; intro w2 hown hgrow; have HO := lhd hown; have HB := lhd ((Below.refl w1.heap.size w1).grown hgrow (Nat.le_refl _) (fun k hk => by cases hk)); have HB3 : Hid (Below w1.heap.size w1 (w2.alloc (.cells #[.slice (some ⟨w1.heap.size, 0, none⟩) n n] 96))) := lhd (HB.out.alloc HB.out.size _); have HBX2 := lhd (HBX1.out.mono HB3.out); have HS2 := lhd (HS1.out.mono HB3.out); have hc2 := zAa (j := 0) (u := sysP b) HBX2.out.h0 rfl; have k22 := HS2.out.cells.2.2.1; clear hown hgrow k0 k2 hc1)
  have HM2 : Hid (AllM w (w2.alloc (.cells #[.slice (some ⟨w1.heap.size, 0, none⟩) n n] 96)) b kb n size w1.heap.size w2.heap.size f rv sv (fillTo sv nilS n 0)) := lhd ⟨HS2.out, HBX2.out, heap_alloc_new w2 _, by
    have := HO.out
    rw [Nat.mul_one] at this
    rw [zBI]
    exact zAp (toList_madeCells_one (.slice none 0 0) n ▸ this) fun g _ hg => Below.heap_alloc _ _ _ (Array.getElem?_eq_some_iff.1 hg).1⟩
  generalize w1.heap.size = gv at *
  generalize w2.heap.size = bv at *
  generalize (w2.alloc (.cells #[.slice (some ⟨gv, 0, none⟩) n n] 96)) = w3 at *
  clear HO HB HB3 HBX2 HS2 HC0 HC1 HC2 HC3 HC4 hc2 k22 HS1 HBX1
  gi_loopw [5, 6, 30] (fun _ _ i wr => ∃ k : Nat, k ≤ n ∧ i = .int .i64 k ∧ AllM w wr b kb n size gv bv f rv sv (fillTo sv nilS n k)) (fun _ _ i _ => n - (intOf i).toNat)
  case atStart => exact ⟨0, Nat.zero_le _, rfl, HM2.out⟩
  case round =>
    obtain ⟨k, hk, rfl, hM⟩ := hrel
    have HM := lhd hM
    clear hM
    by_cases hlt : k < n
    · obtain ⟨hk1, hk2⟩ := HM.out.sys.kcell k hlt
      obtain ⟨q, ar, cr, ay, cy, -, e1, e2, -⟩ := HM.out.sys.full HF.out hlt
      have HSET := lhd (zCm sv nilS n k)
      rw [e1] at hk1
      rw [e2] at hk2 HSET
      clear e1 e2
      have HM3 : Hid (AllM w (wr.alloc (.cells #[.slice ar (kOf n) cr, .slice ay size cy] 244)) b kb n size gv bv f rv sv (fillTo sv nilS n k)) := lhd (HM.out.mono ((Below.refl _ _).alloc (Nat.le_refl _) _))
      have hv1 := zAa (j := 0) (u := .slice (some ⟨gv, 0, none⟩) n n) HM3.out.vbox rfl
      have hg1 := HM3.out.own.cellAt k (by rw [Nat.mul_one]; exact hlt)
      have hg2 : (wr.alloc (.cells #[.slice ar (kOf n) cr, .slice ay size cy] 244)).frozen? ⟨gv, k, none⟩ = false := HM3.out.own.frozenAt k
      have hg3 : (fillTo sv nilS n k)[k]? = some nilS := by
        have hl : k < (fillTo sv nilS n k).length := by rw [zAI]; exact hlt
        rw [List.getElem?_eq_getElem hl]
        simp [fillTo]
      rw [hg3] at hg1
      clear hg3
      gi_wp2
      exact ⟨⟨k + 1, by omega, by go_num, by rw [← HSET.out]; exact HM3.out.set k _⟩, by simp [intOf]; omega⟩
    · have ek : n = k := by omega
      subst ek
      have hc2 := zAa (j := 0) (u := sysP b) HM.out.box.h0 rfl
      have k22 := HM.out.sys.cells.2.2.1
      gi_wp2_with (refine ⟨trivial, ?_⟩; gi_at_call 159; refine (zKL Fence.wide _ trivial rfl _ _ _ _).mono ?_; rintro e w' ⟨rfl, rfl⟩)
      have HMB : Hid (AllM w (wr.alloc (.cells #[.slice (some ⟨kb, 0, none⟩) n n] 240)) b kb n size gv bv f rv sv (fillTo sv nilS n n)) := lhd (HM.out.mono ((Below.refl _ _).alloc (Nat.le_refl _) _))
      have HBX0 : Hid (Boxed (wr.alloc (.cells #[.slice (some ⟨kb, 0, none⟩) n n] 240)) wr.heap.size 240 (.slice (some ⟨kb, 0, none⟩) n n)) := lhd (Boxed.new wr _ _)
      have hbs : wr.heap.size < (wr.alloc (.cells #[.slice (some ⟨kb, 0, none⟩) n n] 240)).heap.size := by rw [World.size_alloc]; omega
      clear hc2 k22
      generalize wr.heap.size = Bs at *
      generalize wr.alloc (.cells #[.slice (some ⟨kb, 0, none⟩) n n] 240) = W0 at *
      have hI0 : AllI w b kb n size gv bv Bs f rv sv [] W0 := zJ6 HMB.out HBX0.out HF.out
      have hWB : w.heap.size ≤ W0.heap.size := HMB.out.box.bel.size
      refine wpIn_rangeFunc_ownH (F := Fence.wide) rfl h1 (gf := 191) (lb := #[.pointer (some ⟨Bs, 0, none⟩)]) rfl trivial (enters_of Tryz.func191 (by kernel_rfl) rfl)
        (zFR Fence.wide (3 - 1) trivial rfl (by omega) Bs kb n rv sv (by omega) W0 hbs HMB.out.sys.klt HBX0.out.cell (fun j hj => HMB.out.sys.kcell j hj)) (fun h k => KpB.trans h k) (KpB.book hbs HMB.out.sys.klt) (Below.refl _ _) (fun _ => rfl)
        (AllI w b kb n size gv bv Bs f rv sv) (fun _ _ _ => False) (AllI.from hWB) (fun _ _ _ _ _ hs _ _ => hs) hI0
        (fun x a' W => ∃ eb : Nat, a' = { tmps := #[sysP b, .pointer (some ⟨w.heap.size, 0, none⟩), .pointer (some ⟨w.heap.size + 1, 0, none⟩), .pointer (some ⟨w.heap.size + 1 + 1, 0, none⟩), .pointer (some ⟨bv, 0, none⟩), u5, u6, .int .i64 (x.1 : Int), .pointer (some ⟨eb, 0, none⟩), undef, undef, .bool false, sysP b, .bool false, undef, .bool false, sysP b, .bool true, .bool false, undef, sysP b, .pointer (some ⟨b, 0, none⟩), .pointer (some ⟨b, 0, none⟩), .int .i64 (n : Int), .slice (some ⟨gv, 0, none⟩) n n, sysP b, .pointer (some ⟨b, 0, none⟩), .pointer (some ⟨b, 2, none⟩), .slice (some ⟨kb, 0, none⟩) n n, .int .i64 (n : Int), .int .i64 (n : Int), .bool false, u32, u33, u34, u35, u36, u37, u38, u39, u40, sysP b, .pointer (some ⟨b, 0, none⟩), .pointer (some ⟨b, 2, none⟩), .slice (some ⟨kb, 0, none⟩) n n, .func (.func 191) #[] #[.pointer (some ⟨Bs, 0, none⟩)], .int .i64 (x.1 : Int), .agg #[rv x.1, sv x.1], undef, undef, undef, undef, undef, undef, undef, undef, undef, undef, undef, undef, undef, undef, undef, undef, undef, undef, undef, undef], defers := [] } ∧ W.heap[eb]? = some (.cells #[rv x.1, sv x.1] 244 (0, 0)))
        (fun x a' _ X Y row h hg hr => by obtain ⟨eb, e1, e2⟩ := h; exact ⟨eb, e1, (zE1 hg (fun r e => (hr r e).2) _ _ _ _ e2).trans e2⟩) ?assign ?body ?done ?stop
      case assign =>
        rintro l pre x W K hI hK
        have HI := lhd hI
        obtain ⟨vals, V, hMW, hBW, -⟩ := hI
        obtain ⟨q, ar, cr, ay, cy, -, e1, e2, -⟩ := hMW.sys.full HF.out x.2
        have hBs := (Array.getElem?_eq_some_iff.1 (show W.heap[Bs]? = _ from hBW)).1
        have hkb := hMW.sys.klt
        rw [e1, e2] at hK ⊢
        have HK := lhd hK
        clear hK e1 e2 hI0
        gi_wp2
        have hb : Below W.heap.size W (W.alloc (.cells #[.slice ar (kOf n) cr, .slice ay size cy] 244)) := (Below.refl _ _).alloc (Nat.le_refl _) _
        exact HK.out _ _ ((KeepsOthers.alloc _ _).from _) ⟨hb.block Bs hBs, hb.block kb hkb⟩ (HI.out.below hb) ⟨W.heap.size, rfl, heap_alloc_new _ _⟩
      case body =>
        rintro l pre ⟨c, hc⟩ a' W hl hr hI ⟨eb, rfl, heb⟩ hlt
        dsimp only at hlt heb ⊢
        obtain ⟨vals, V, hM, hBx, hvl, hVl, hrow, hval⟩ := hI
        obtain ⟨q, ar, cr, ay, cy, hq, e1, e2, e3, e4, e5, e6⟩ := hM.sys.full HF.out hc
        have HEND : Hid (∀ W' u, Below W.heap.size W W' → OwnRow byteV 5 W' u size (sumS size (pickTo q.1 V n)) → (∀ g, u.ownBlock = some g → w.heap.size ≤ g) → KeepsFrom W0.heap.size W (W'.setCell ⟨gv, c, none⟩ u) ∧ KpB Bs kb W (W'.setCell ⟨gv, c, none⟩ u) ∧ AllI w b kb n size gv bv Bs f rv sv (pre ++ [⟨c, hc⟩]) (W'.setCell ⟨gv, c, none⟩ u)) :=
          lhd fun W' u hb hu hub => zLn hc hq e6 e5 hM hBx hvl hVl hrow hval hlt hb hu hub
        rw [e1, e2] at heb
        have hx1 := zAa (j := 0) (u := .slice ar (kOf n) cr) heb rfl
        have hv1 := zAa (j := 0) (u := .slice (some ⟨gv, 0, none⟩) n n) hM.vbox rfl
        have hs1 := zAa (j := 0) (u := sysP b) hM.box.h0 rfl
        have hk1 := hM.sys.cells.2.1
        have hd : Below W.heap.size W W.drew := (Below.refl _ _).drew
        have HR : Hid (ListAt wordV W.drew (.slice ar (kOf n) cr) q.1) := lhd (by
          rw [e1] at e3
          exact (ListAt.of_owns e3).mono hd)
        have HMT : Hid (MatAt byteV W.drew (.slice (some ⟨gv, 0, none⟩) n n) V) := lhd (by
          refine MatAt.mono ⟨vals, ListAt.of_owns (f := id) (by rw [List.map_id]; exact hM.own), by omega, fun i => ?_⟩ hd
          by_cases hi : i < n
          · exact ListAt.of_owns (hrow i hi).1
          · rw [List.getD_eq_getElem?_getD, List.getD_eq_getElem?_getD, List.getElem?_eq_none (by omega), List.getElem?_eq_none (by omega)]
            exact ListAt.nil _ _)
        have HPK : Hid (Calls Tryz.prog 160 #[.slice ar (kOf n) cr, .slice (some ⟨gv, 0, none⟩) n n, .int .i64 (size : Int)] W.drew fun e w' => ∃ au cu, e = .returned (.tuple #[.slice au size cu, .nilIface]) ∧ OwnRow byteV 5 w' (.slice au size cu) size (sumS size (pickTo q.1 V n)) ∧ (∀ g, (Value.slice au size cu).ownBlock = some g → w.heap.size ≤ g) ∧ Below W.heap.size W w') := lhd (by
          have hlen : ∀ r ∈ V, r.length = size ∧ Octets r := fun r hr => by
            obtain ⟨i, hi, rfl⟩ := List.getElem_of_mem hr
            have := hrow i (by omega)
            have e : V.getD i [] = V[i] := by simp [hi]
            rw [e] at this
            exact ⟨this.2.2, this.2.1⟩
          refine (zM8 _ _ q.1 V size HR.out e5.2.1 (by rw [e5.1]; have := zEI hn2; omega) HMT.out hM.sys.num.2.2.1 hM.sys.num.2.2.2 (fun r hr => (hlen r hr).1) (fun r hr => (hlen r hr).2)).mono ?_
          intro e w' h
          unfold PickSays at h
          rw [hVl, zHV e5.2.2.1] at h
          simp only [Bool.false_eq_true, if_false] at h
          obtain ⟨v', rfl, h1, h2⟩ := h
          obtain ⟨au, cu, rfl, -, -⟩ := zAe h1
          exact ⟨au, cu, rfl, zKS h1, fun g hg => Nat.le_trans hM.box.bel.size (Nat.le_trans hd.size (h1.lt g hg).1), hd.trans h2⟩)
        have HM := lhd hM
        clear hI0 hM hBx hrow hval heb e3 e4 hd
        gi_wp2_with fail
        refine zDz 7 (by kernel_rfl) (by kernel_rfl) (by decide) (by kernel_rfl) (by kernel_rfl) (by kernel_rfl) (by kernel_rfl) ?_
        simp only [List.take_succ_cons, List.take_zero]
        repeat still_step
        refine wpStill_nil ?_
        change wpAnyIn (Fence.wide.inRound l) _ _ _ _ _ 6 #[true, true, true, true, true, true, true, false, false, false, false, false, false] _ _
        refine wpAnyIn_ready (rs := [7]) (by kernel_rfl) (by simp) ?_
        refine AllReadyIn.cons rfl (fun K hK => ?_) AllReadyIn.nil
        go_simp
        refine ⟨trivial, ?_⟩
        gi_at_call 160
        refine (CallsIn.inRound l (callsIn_wide.2 HPK.out)).mono ?_
        rintro e' w' ⟨au, cu, rfl, ho, hob, hb⟩
        have HE := lhd (HEND.out w' _ hb ho hob)
        have HMW := lhd (HM.out.mono hb)
        clear ho hob hb HPK HEND HM hx1 hv1 hs1 hk1
        dsimp only
        refine hK _ _ ?_
        clear hK K
        refine wpAnyIn_ready (rs := [8]) (by kernel_rfl) (by simp) ?_
        refine AllReadyIn.cons rfl (fun K hK => ?_) AllReadyIn.nil
        go_simp
        refine hK _ _ ?_
        clear hK K
        have hv1 := zAa (j := 0) (u := .slice (some ⟨gv, 0, none⟩) n n) HMW.out.vbox rfl
        have hg1 := HMW.out.own.cellAt c (by rw [Nat.mul_one]; exact hc)
        have hg2 : w'.frozen? ⟨gv, c, none⟩ = false := HMW.out.own.frozenAt c
        obtain ⟨y, hy⟩ : ∃ y, vals[c]? = some y := ⟨_, List.getElem?_eq_getElem (by have := HMW.out.own.1; omega)⟩
        rw [hy] at hg1
        clear hy
        refine wpAnyIn_ready (rs := [9, 10]) (by kernel_rfl) (by simp) ?_
        refine AllReadyIn.cons rfl (fun K hK => ?_) (AllReadyIn.cons rfl (fun K hK => ?_) AllReadyIn.nil)
        · go_simp
          refine hK _ _ ?_
          clear hK K
          refine wpAnyIn_ready (rs := [10, 11]) (by kernel_rfl) (by simp) ?_
          refine AllReadyIn.cons rfl (fun K hK => ?_) (AllReadyIn.cons rfl (fun K hK => ?_) AllReadyIn.nil)
          · go_simp
            refine hK _ _ ?_
            clear hK K
            refine wpAnyIn_ready (rs := [11]) (by kernel_rfl) (by simp) ?_
            refine AllReadyIn.cons rfl (fun K hK => ?_) AllReadyIn.nil
            · go_simp
              refine hK _ _ ?_
              clear hK K
              refine wpAnyIn_ready (rs := [12]) (by kernel_rfl) (by simp) ?_
              refine AllReadyIn.cons rfl (fun K hK => ?_) AllReadyIn.nil
              · go_simp
                refine hK _ _ ?_
                clear hK K
                refine wpAnyIn_done (by kernel_rfl) ?_ _
                gi_wp2
                exact HE.out
          · go_simp
            refine hK _ _ ?_
            clear hK K
            refine wpAnyIn_ready (rs := [10]) (by kernel_rfl) (by simp) ?_
            refine AllReadyIn.cons rfl (fun K hK => ?_) AllReadyIn.nil
            · go_simp
              refine hK _ _ ?_
              clear hK K
              refine wpAnyIn_ready (rs := [12]) (by kernel_rfl) (by simp) ?_
              refine AllReadyIn.cons rfl (fun K hK => ?_) AllReadyIn.nil
              · go_simp
                refine hK _ _ ?_
                clear hK K
                refine wpAnyIn_done (by kernel_rfl) ?_ _
                gi_wp2
                exact HE.out
        · go_simp
          refine hK _ _ ?_
          clear hK K
          refine wpAnyIn_ready (rs := [9]) (by kernel_rfl) (by simp) ?_
          refine AllReadyIn.cons rfl (fun K hK => ?_) AllReadyIn.nil
          · go_simp
            refine hK _ _ ?_
            clear hK K
            refine wpAnyIn_ready (rs := [11]) (by kernel_rfl) (by simp) ?_
            refine AllReadyIn.cons rfl (fun K hK => ?_) AllReadyIn.nil
            · go_simp
              refine hK _ _ ?_
              clear hK K
              refine wpAnyIn_ready (rs := [12]) (by kernel_rfl) (by simp) ?_
              refine AllReadyIn.cons rfl (fun K hK => ?_) AllReadyIn.nil
              · go_simp
                refine hK _ _ ?_
                clear hK K
                refine wpAnyIn_done (by kernel_rfl) ?_ _
                gi_wp2
                exact HE.out
      case done =>
        rintro D xs W hD hxs ⟨vals, V, hM, hBx, hvl, hVl, hrow, hval⟩ hK2
        have hxl : xs.length = n := by rw [← List.length_map (f := fun x : Fin n => x.1), hxs, zDE]
        rw [hxl] at hval
        have hall := hval hxs
        have HM3 := lhd hM
        have hv1 := zAa (j := 0) (u := .slice (some ⟨gv, 0, none⟩) n n) hM.vbox rfl
        have hc1 := zAa (j := 0) (u := nilS) hM.box.h1 rfl
        have hc2 := zAa (j := 0) (u := .nilIface) hM.box.h2 rfl
        have hf1 := zAb (j := 0) hM.box.h1
        have hf2 := zAb (j := 0) hM.box.h2
        have HALL := lhd hall
        have HROW := lhd hrow
        have HK2 := lhd hK2
        clear hI0 hM hBx hrow hval hall hK2 hxs
        gi_wp2
        obtain ⟨d1, d2, d3⟩ := HM3.out.box.done (v := .slice (some ⟨gv, 0, none⟩) n n) (e := .nilIface)
        have nD : ∀ (x : Nat) (cu : Array Value) (t : TypeId) (z : Nat × Nat), W.heap[x]? = some (Obj.cells cu t z) → x ≠ D := fun x cu t z hx e => by
          have := HK2.out
          rw [← e, hx] at this
          cases this
        have n1 := nD _ _ _ _ HM3.out.box.h1
        have n2 := nD _ _ _ _ HM3.out.box.h2
        have hKD : ((W.setCell ⟨w.heap.size + 1, 0, none⟩ (.slice (some ⟨gv, 0, none⟩) n n)).setCell ⟨w.heap.size + 1 + 1, 0, none⟩ .nilIface).heap[D]? = some (.deferred (some [])) := by
          rw [Below.heap_setCell _ _ _ _ (fun e => n2 e.symm), Below.heap_setCell _ _ _ _ (fun e => n1 e.symm)]
          exact HK2.out
        have hk : ∀ (x : Nat) (cu : Array Value) (t : TypeId) (z : Nat × Nat), t = 5 ∨ t = 31 → W.heap[x]? = some (Obj.cells cu t z) →
            (((W.setCell ⟨w.heap.size + 1, 0, none⟩ (.slice (some ⟨gv, 0, none⟩) n n)).setCell ⟨w.heap.size + 1 + 1, 0, none⟩ .nilIface).putObj D (.deferred none)).heap[x]? = W.heap[x]? := fun x cu t z ht hx => by
          rw [World.putObj_heap_other (nD _ _ _ _ hx), Below.heap_setCell _ _ _ _ (fun e => by
            rw [show x = w.heap.size + 1 + 1 from e, HM3.out.box.h2] at hx
            simp at hx
            rcases ht with rfl | rfl <;> simp at hx), Below.heap_setCell _ _ _ _ (fun e => by
            rw [show x = w.heap.size + 1 from e, HM3.out.box.h1] at hx
            simp at hx
            rcases ht with rfl | rfl <;> simp at hx)]
        have hbel : Below w.heap.size w (((W.setCell ⟨w.heap.size + 1, 0, none⟩ (.slice (some ⟨gv, 0, none⟩) n n)).setCell ⟨w.heap.size + 1 + 1, 0, none⟩ .nilIface).putObj D (.deferred none)) :=
          d3.grown (grownBy_putObj' _ D _) d3.size (fun r e => by cases e; omega)
        refine ⟨by simp, .inl ⟨_, _, rfl, run_takeDeferred hKD, ?_⟩⟩
        refine ⟨_, zEb rfl _ _ _ _ _ _ rfl rfl zLP zJW ((World.cell?_of_block (World.putObj_heap_other n1)).trans d1) ((World.cell?_of_block (World.putObj_heap_other n2)).trans d2), _, V, rfl, ⟨vals, by rw [hVl]; exact zAp HM3.out.own fun g cu hx => hk _ _ _ _ (.inr rfl) hx, fun i => ?_, fun x hx g hg => ?_⟩, hVl, fun c hc => ((HALL.out c hc).1 (by omega)).1, hbel⟩
        · by_cases hi : i < n
          · exact ElAt.own (zAp (HROW.out i hi).1 fun g cu hx => hk _ _ _ _ (.inl rfl) hx)
          · rw [List.getD_eq_getElem?_getD, List.getD_eq_getElem?_getD, List.getElem?_eq_none (by omega), List.getElem?_eq_none (by omega)]
            exact ElAt.nil _ _ _ _
        · obtain ⟨i, hi, rfl⟩ := List.getElem_of_mem hx
          refine ((HALL.out i (by omega)).1 (by omega)).2 g ?_
          rw [List.getD_eq_getElem?_getD, List.getElem?_eq_getElem hi]
          exact hg
      case stop =>
        rintro D c pre W _ _ h _
        exact h.elim
end
end

section
open Go.RowKit Go.Extern.Stop Go.Stop Go.Extern
theorem zHS {w : World} (b n size : Nat) (K : List Vec) (kb : Nat) (hS : Sys w b n size K n false kb) :
    Calls Tryz.prog 125 #[sysP b] w fun e w' => ∃ v' V, e = .returned (.tuple #[v', .nilIface]) ∧ MatFresh byteV 5 w.heap.size 31 w' v' V ∧ V.length = n ∧ (∀ c, c < n → ∃ x, ValV n K c x ∧ V.getD c [] = symV n size x) ∧ Below w.heap.size w w' := by
  obtain ⟨f, rv, sv, k1, k2, k3⟩ := hS
  refine (zJE b kb n size f rv sv k1 k3).mono ?_
  rintro e w' ⟨v', V, h1, h2, h3, h4, h5⟩
  refine ⟨v', V, h1, h2, h3, fun c hc => ?_, h5⟩
  obtain ⟨x, hx, hV⟩ := h4 c hc
  exact ⟨x, hx.congr k2, hV⟩
end
end Go.Proofs.YtkfimdpcadbcpaaGreatDoor
