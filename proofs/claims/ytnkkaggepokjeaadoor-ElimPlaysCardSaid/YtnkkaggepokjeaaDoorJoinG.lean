import Derived.Test.YtnkkaggepokjeaaDoorElRefI
import Derived.Test.YtnkkaggepokjeaaDoorElI
import Derived.Deep.RegionHeld3
import Derived.Test.YtnkkaggepokjeaaDoorElRefC
import Derived.Test.YtnkkaggepokjeaaDoorJoinC
import Derived.Test.YtnkkaggepokjeaaDoorJoinE
import Derived.Test.YtnkkaggepokjeaaDoorJoinA
import Derived.Test.YtnkkaggepokjeaaDoorJoinD

section
/- Package geyserref05: All. -/
namespace Go.Proofs.YtnkkaggepokjeaaDoor
open Go.RowKit Go.Extern.Stop Go.Stop Go.Extern

set_option maxRecDepth 1000000 in
theorem refAll_clash {w : World} (n size : Int) (v : Value) :
    Calls Tryd.prog 40 #[sysV n size v true] w fun e w' => e = .returned (.tuple #[nilS, .int .i64 7]) ∧ Below w.heap.size w w' := by
  have HB0 := Lib.hid ((Below.refl w.heap.size w).alloc (Nat.le_refl _) (.cells #[.int .i64 n, .int .i64 size, v, .bool true] 36))
  unfold sysV
  go_enter Tryd.func40, Tryd.ntmps40
  go_wp2
  go_ret2
  exact ⟨rfl, HB0.out⟩

set_option maxRecDepth 1000000 in
theorem refAll_short {w : World} (n size : Int) (v : Value) (L : List Eqn) (h : EqsAt w v L) (hl : (L.length : Int) < n) :
    Calls Tryd.prog 40 #[sysV n size v false] w fun e w' => e = .returned (.tuple #[nilS, .int .i64 4]) ∧ Below w.heap.size w w' := by
  obtain ⟨ad, cap, rfl, hcap, hcm, -⟩ := h
  have HB0 := Lib.hid ((Below.refl w.heap.size w).alloc (Nat.le_refl _) (.cells #[.int .i64 n, .int .i64 size, .slice ad L.length cap, .bool false] 36))
  unfold sysV
  go_enter Tryd.func40, Tryd.ntmps40
  go_wp2
  go_ret2
  exact ⟨rfl, HB0.out⟩

set_option maxRecDepth 1000000 in
set_option maxHeartbeats 4000000 in
theorem refAll_some {w : World} (n size : Nat) (v : Value) (L : List Eqn) (X : Nat → Vec) (h : EqsAt w v L) (hok : ∀ p ∈ L, EqOk n size p) (hn1 : 1 ≤ n)
    (hn : n + 8 * size ≤ 4096) (hl : L.length ≤ 4095) (hsz1 : 1 ≤ size) (hsz64 : size ≤ 64) (hcons : Cons n (vecsE L n)) (hx : ∀ c, c < n → ValV n (vecsE L n) c (X c)) (hln : n ≤ L.length) :
    Calls Tryd.prog 40 #[sysV n size v false] w fun e w' => ∃ v', e = .returned (.tuple #[v', .int .i64 0]) ∧ MatAt byteV w' v' ((List.range n).map fun c => symV n size (X c)) ∧ Below w.heap.size w w' := by
  obtain ⟨i0, hi0, hz0, hz1, hz2⟩ := info_parts info_sym
  have HE0 := Lib.hid h
  have HEL := h
  obtain ⟨ad, cap, rfl, hcap, hcm, -⟩ := HEL
  obtain ⟨w0, hw0, hb0, hs0, hsc⟩ := sys_laid w n size (.slice ad L.length cap) false
  have HB0 := Lib.hid hb0
  have HSC := Lib.hid hsc
  have HW0 := Lib.hid hw0
  have HVAL : Hid (∀ (c : Nat) (w' : World), c < n → Below w.heap.size w w' → Calls Tryd.prog 39 #[sysV n size (.slice ad L.length cap) false, .int .i64 (c : Int)] w' fun e w'' => ∃ v', e = .returned (.tuple #[v', .int .i64 0]) ∧ w''.ownsRow w'.heap.size 5 1 v' size ((symV n size (X c)).map byteV) ∧ Below w'.heap.size w' w'') := Lib.hid fun c w' hc hb =>
    Value_some n size _ L c (HE0.out.mono hb) hok hn hl hc hsz1 hsz64 hcons (X c) (hx c hc)
  clear hsc hb0 hw0 hok h hcons hx
  have hs0' := HSC.out.1
  have hs1' := HSC.out.2.1
  have hs2' := HSC.out.2.2.1
  have hs3' := HSC.out.2.2.2
  unfold sysV at HVAL ⊢
  go_enter Tryd.func40, Tryd.ntmps40
  go_wp2_with fail
  rw [← HW0.out]
  rw [decide_eq_false (show ¬ L.length < n by omega)]
  clear hs0' hs1' hs2' hs3'
  go_loopw [4, 5] (fun o i wr => ∃ k : Nat, k ≤ n ∧ i = .int .i64 k ∧ MatOwn byteV 5 w0.heap.size 39 wr o ((List.range k).map fun c => symV n size (X c)) ∧ Below w0.heap.size w0 wr) (fun _ i _ => n - (intOf i).toNat)
  case atStart => exact ⟨0, Nat.zero_le _, rfl, by rw [← hs0]; exact MatOwn.start w0 (Nat.le_refl _), (Below.refl _ _).alloc (Nat.le_refl _) _⟩
  case round =>
    obtain ⟨k, hk, rfl, ⟨vs, hown, hel⟩, hbel⟩ := hrel
    have hsz := hbel.size
    obtain ⟨x0, x1, x2, x3⟩ := HSC.out.mono hbel
    by_cases hlt : k < n
    · have HQ : Hid (((List.range k).map fun c => symV n size (X c)).length = k) := Lib.hid (by simp)
      have HO := Lib.hid hown
      rw [HQ.out] at HO
      have HEL := Lib.hid hel
      have HB := Lib.hid hbel
      have HS : Hid (((List.range (k + 1)).map fun c => symV n size (X c)) = ((List.range k).map fun c => symV n size (X c)) ++ [symV n size (X k)]) := Lib.hid (by simp [List.range_succ])
      have HBW := Lib.hid (HB0.out.trans (hbel.mono (by omega)))
      clear hown hel hbel
      go_wp2_with fail
      clear x0 x1 x2 x3
      refine (HVAL.out k wr hlt HBW.out).mono ?_
      rintro e w3 ⟨v3, rfl, ho3, hb3⟩
      have HEN : Hid (ElAt byteV 5 w0.heap.size w3 v3 (symV n size (X k))) := Lib.hid (ElAt.own ho3)
      have HO3 := Lib.hid (owns_kept HO.out hb3)
      have HEL3 := Lib.hid (fun i => (HEL.out i).mono hb3)
      have HB3 := Lib.hid (HB.out.trans (hb3.mono hsz))
      have hsz3 := HB3.out.size
      obtain ⟨a3, c3, rfl, -, -⟩ := own_open ho3
      clear ho3 hb3 HO HEL HB
      go_wp2_with (at_builtin; go_loud (refine wpList_append_own _ rfl _ _ 52 rfl w0.heap.size 39 i0 (.slice none 0 0) 1 24 Tryd.underlying52 hi0 hz0 hz1 hz2 rfl (by decide) u4 k vs rfl (HO3.out.alloc _) ⟨w3.heap.size, 0, none⟩ 1 1 [.slice a3 size c3] rfl rfl (cell_one_new _ _ _) (fun x hx => by simp at hx; subst hx; rfl) (by unfold maxLen; omega) (by omega) (by simp; omega) ?_; intro v2 w2 hown1 hgrow1 _; have hb2 := Lib.hid ((HB3.out.alloc hsz3 _).grown hgrow1 (by simp; omega) (fun k hk => (HO3.out.lt k hk).1)); have ho2 : Hid (MatOwn byteV 5 w0.heap.size 39 w2 v2 (((List.range k).map fun c => symV n size (X c)) ++ [symV n size (X k)])) := Lib.hid (MatOwn.app (by decide) (by rw [HQ.out]; exact HO3.out) HEL3.out HEN.out (by rw [HQ.out]; exact hown1) hgrow1); clear hown1 hgrow1))
      go_roundw
      case rel => exact ⟨k + 1, by omega, by go_num, by rw [HS.out]; exact ho2.out, hb2.out⟩
      case measure => simp [intOf]; omega
    · have hk' : k = n := by omega
      subst hk'
      have HM := Lib.hid (MatOwn.at ⟨vs, hown, hel⟩)
      have HB := Lib.hid (HB0.out.trans (hbel.mono (by omega)))
      clear hown hel hbel
      go_wp2
      go_ret2
      exact ⟨_, rfl, HM.out, HB.out⟩
end Go.Proofs.YtnkkaggepokjeaaDoor
end

section
/- Package elim: (*System).Clone. -/
namespace Go.Proofs.YtnkkaggepokjeaaDoor
open Go.RowKit Go.Extern.Stop Go.Stop Go.Extern

/-- The first k places of the kept ones. -/
def fTo (f : Nat → Option Eqn) (k : Nat) : Nat → Option Eqn := fun c => if c < k then f c else none

/-- A clone under way: the system as it was, and its first k places in the clone's own memory. -/
structure CloM (W : World) (X kx n size cnt k : Nat) (f : Nat → Option Eqn) (rv sv : Nat → Value) (cl : Bool) : Prop where
  obj : W.heap[X]? = some (.cells (sysCells n size kx cnt cl) 74 (0, 0))
  kobj : ∃ cur, W.heap[kx]? = some (.cells cur 82 (0, 0))
  kcell : ∀ c, c < n → W.cell? ⟨kx, c * 2, none⟩ = some (rv c) ∧ W.cell? ⟨kx, c * 2 + 1, none⟩ = some (sv c)
  place : ∀ c, c < n → PlaceAt W n size c (rv c) (sv c) (fTo f k c)

section
variable {W W' : World} {X kx n size cnt k : Nat} {f : Nat → Option Eqn} {rv sv : Nat → Value} {cl : Bool}
theorem CloM.lt (h : CloM W X kx n size cnt k f rv sv cl) : X < W.heap.size := (Array.getElem?_eq_some_iff.1 h.obj).1
theorem CloM.klt (h : CloM W X kx n size cnt k f rv sv cl) : kx < W.heap.size := by obtain ⟨cur, hc⟩ := h.kobj; exact (Array.getElem?_eq_some_iff.1 hc).1
theorem CloM.ne (h : CloM W X kx n size cnt k f rv sv cl) : X ≠ kx := fun e => by
  obtain ⟨cur, hc⟩ := h.kobj
  have := h.obj
  rw [e, hc] at this
  simp at this
theorem place_same {c : Nat} {r1 s1 : Value} {o : Option Eqn} (hp : PlaceAt W n size c r1 s1 o) (hs : ∀ (g : Nat) (e : TypeId) (cur : Array Value), e = 47 ∨ e = 5 → W.heap[g]? = some (Obj.cells cur e (0, 0)) → W'.heap[g]? = W.heap[g]?) : PlaceAt W' n size c r1 s1 o := by
  cases o with
  | none => exact hp
  | some q => exact ⟨own_same hp.1 fun g cur hg => hs g _ cur (.inl rfl) hg, own_same hp.2.1 fun g cur hg => hs g _ cur (.inr rfl) hg, hp.2.2⟩
theorem CloM.mono (h : CloM W X kx n size cnt k f rv sv cl) (hb : Below W.heap.size W W') : CloM W' X kx n size cnt k f rv sv cl := by
  obtain ⟨cur, hk⟩ := h.kobj
  refine ⟨(hb.block X h.lt).trans h.obj, ⟨cur, (hb.block kx h.klt).trans hk⟩, fun c hc => ?_, fun c hc => place_same (h.place c hc) fun g _ _ _ hg => hb.block g (Array.getElem?_eq_some_iff.1 hg).1⟩
  obtain ⟨h1, h2⟩ := h.kcell c hc
  exact ⟨(World.cell?_of_block (w := W) (a := ⟨kx, c * 2, none⟩) (hb.block kx h.klt)).trans h1, (World.cell?_of_block (w := W) (a := ⟨kx, c * 2 + 1, none⟩) (hb.block kx h.klt)).trans h2⟩
theorem CloM.full (h : CloM W X kx n size (cntF f n) n f rv sv cl) (hn : 1 ≤ n ∧ n ≤ 4096 ∧ 1 ≤ size ∧ size ≤ 64) : SysM W X kx n size f rv sv cl :=
  ⟨h.obj, h.kobj, h.kcell, fun c hc => by
    have := h.place c hc
    unfold fTo at this
    rwa [if_pos hc] at this, hn⟩
/-- The next place is stored. -/
theorem CloM.put (h : CloM W X kx n size cnt k f rv sv cl) {r1 s1 : Value} (hk : k < n) (hp : PlaceAt W n size k r1 s1 (f k)) :
    CloM ((W.setCell ⟨kx, k * 2, none⟩ r1).setCell ⟨kx, k * 2 + 1, none⟩ s1) X kx n size cnt (k + 1) f (updV rv k r1) (updV sv k s1) cl := by
  have hne := h.ne
  obtain ⟨cur, hkk⟩ := h.kobj
  have k1 := heap_setCell_at (j := k * 2) (u := r1) hkk
  have k2 := heap_setCell_at (j := k * 2 + 1) (u := s1) k1
  have o1 := (Below.heap_setCell W ⟨kx, k * 2, none⟩ r1 X hne).trans h.obj
  have o2 := (Below.heap_setCell (W.setCell ⟨kx, k * 2, none⟩ r1) ⟨kx, k * 2 + 1, none⟩ s1 X hne).trans o1
  have tr : ∀ (g : Nat) (e : TypeId) (cu : Array Value), e = 47 ∨ e = 5 → W.heap[g]? = some (Obj.cells cu e (0, 0)) → ((W.setCell ⟨kx, k * 2, none⟩ r1).setCell ⟨kx, k * 2 + 1, none⟩ s1).heap[g]? = W.heap[g]? := fun g e cu he hg => by
    have hgk : g ≠ kx := fun e1 => by
      rw [e1, hkk] at hg
      rcases he with rfl | rfl <;> simp at hg
    exact (Below.heap_setCell (W.setCell ⟨kx, k * 2, none⟩ r1) ⟨kx, k * 2 + 1, none⟩ s1 g hgk).trans (Below.heap_setCell W ⟨kx, k * 2, none⟩ r1 g hgk)
  refine ⟨o2, ⟨_, k2⟩, fun d hd => ?_, fun d hd => ?_⟩
  · obtain ⟨g1, g2⟩ := h.kcell d hd
    obtain ⟨e1, e2⟩ := h.kcell k hk
    unfold updV
    by_cases e : d = k
    · subst e
      rw [if_pos rfl, if_pos rfl]
      exact ⟨by rw [World.cell?_setCell_other (h := addr_ne (.inr (by omega)))]; exact World.cell?_setCell_same _ _ _ e1, World.cell?_setCell_same _ _ _ (by rw [World.cell?_setCell_other (h := addr_ne (.inr (by omega)))]; exact e2)⟩
    · rw [if_neg e, if_neg e]
      refine ⟨?_, ?_⟩ <;> rw [World.cell?_setCell_other (h := addr_ne (.inr (by omega))), World.cell?_setCell_other (h := addr_ne (.inr (by omega)))]
      · exact g1
      · exact g2
  · unfold updV
    by_cases e : d = k
    · subst e
      rw [if_pos rfl, if_pos rfl, show fTo f (d + 1) d = f d from if_pos (by omega)]
      exact place_same hp tr
    · rw [if_neg e, if_neg e]
      have : fTo f (k + 1) d = fTo f k d := by
        unfold fTo
        by_cases h1 : d < k
        · rw [if_pos h1, if_pos (by omega)]
        · rw [if_neg h1, if_neg (by omega)]
      rw [this]
      exact place_same (h.place d hd) tr
/-- What a place has, cloned. -/
theorem SysM.lists {b kb : Nat} (h : SysM W b kb n size f rv sv cl) {c : Nat} (hc : c < n) : ∃ r s ar cr ay cy, rv c = .slice ar r.length cr ∧ sv c = .slice ay s.length cy ∧ ListAt wordV W (rv c) r ∧ ListAt byteV W (sv c) s ∧ r.length ≤ 100000 ∧ s.length ≤ 100000 ∧
    ∀ (W' : World) (B : Nat) (v1 v2 : Value), (W'.ownsRow B 47 1 v1 r.length (r.map wordV)) → (W'.ownsRow B 5 1 v2 s.length (s.map byteV)) → (rv c = nilS → v1 = nilS) → (sv c = nilS → v2 = nilS) → PlaceAt W' n size c v1 v2 (f c) := by
  have hp := h.place c hc
  cases hf : f c with
  | none =>
    rw [hf] at hp
    obtain ⟨e1, e2⟩ := hp
    rw [e1, e2]
    exact ⟨[], [], none, 0, none, 0, rfl, rfl, ListAt.nil _ _, ListAt.nil _ _, by simp, by simp, fun W' B v1 v2 _ _ h1 h2 => ⟨h1 rfl, h2 rfl⟩⟩
  | some q =>
    rw [hf] at hp
    obtain ⟨h1, h2, h3, h4⟩ := hp
    have l1 : q.1.length = kOf n := h3.1
    have l2 : q.2.length = size := h3.2.2.2.1
    obtain ⟨ar, cr, e1, -, -⟩ := own_open h1
    obtain ⟨ay, cy, e2, -, -⟩ := own_open h2
    have := kOf_le h.num.2.1
    have := h.num.2.2.2
    refine ⟨q.1, q.2, ar, cr, ay, cy, by rw [l1]; exact e1, by rw [l2]; exact e2, ListAt.of_owns h1, ListAt.of_owns h2, by omega, by omega, fun W' B v1 v2 k1 k2 _ _ => ?_⟩
    rw [l1] at k1
    rw [l2] at k2
    exact ⟨ownsRow_base k1 (Nat.zero_le _), ownsRow_base k2 (Nat.zero_le _), h3, h4⟩
end

set_option maxRecDepth 1000000 in
set_option maxHeartbeats 4000000 in
theorem elClone_any {w : World} (b kb n size : Nat) (f : Nat → Option Eqn) (rv sv : Nat → Value) (cl : Bool) (hS : SysM w b kb n size f rv sv cl) :
    Calls Tryd.prog 14 #[sysP b] w fun e w' => ∃ X kx rv' sv', e = .returned (sysP X) ∧ SysM w' X kx n size f rv' sv' cl ∧ w.heap.size ≤ X ∧ w.heap.size ≤ kx ∧ Below w.heap.size w w' := by
  obtain ⟨i0, hi, hz0, hz1, hz2⟩ := info_parts info_eqn
  obtain ⟨hn1, hn2, hs1, hs2⟩ := hS.num
  obtain ⟨hc0, hc1, hc2, hc3, hc4⟩ := hS.cells
  have hlt := hS.lt
  have HS := Lib.hid hS
  clear hS
  go_enter Tryd.func14, Tryd.ntmps14
  go_wp2_with (at_make; refine wpList_make_full _ rfl _ _ 72 rfl w.heap.size 82 i0 (.agg #[.slice none 0 0, .slice none 0 0]) 2 Tryd.underlying72 hi hz0 hz1 .i64 .i64 _ _ n rfl rfl rfl rfl (by rw [hz2]; omega) (by unfold maxLen; omega) (by simp) ?_; intro w2 hown hgrow; have hb1 : Below w.heap.size w w2 := ((Below.refl _ _).alloc (Nat.le_refl _) _).trans ((Below.refl _ _).grown hgrow (by simp) (fun k hk => by cases hk)); have hX : w2.heap[w.heap.size]? = some (.cells (sysCells n size kb (cntF f n) cl) 74 (0, 0)) := (hgrow.block _ (by simp) (by simp)).trans (heap_alloc_new w _); have hx2 := cell_of_heap (j := 2) (u := .slice (some ⟨kb, 0, none⟩) n n) hX rfl; have hxf := frozen_of_heap (j := 2) hX; have HO := Lib.hid hown; have HB1 := Lib.hid hb1; have HX := Lib.hid hX; have hkb2 := hb1.cell (p := ⟨b, 2, none⟩) hlt; clear hown hgrow hb1 hX)
  have hC0 : CloM (w2.setCell ⟨w.heap.size, 2, none⟩ (.slice (some ⟨w.heap.size + 1, 0, none⟩) n n)) w.heap.size (w.heap.size + 1) n size (cntF f n) 0 f (fun _ => nilS) (fun _ => nilS) cl := by
    have hXX := HX.out
    obtain ⟨cur, hk⟩ : ∃ cur, w2.heap[w.heap.size + 1]? = some (.cells cur 82 (0, 0)) := by
      rcases HO.out.2 with ⟨e1, _⟩ | ⟨g, cap, cur, e1, _, h3, _⟩
      · cases e1
      · have : w.heap.size + 1 = g := by simpa [Value.ownBlock] using congrArg Value.ownBlock e1
        rw [this]; exact ⟨cur, h3⟩
    refine ⟨heap_setCell_at hXX, ⟨cur, (Below.heap_setCell _ _ _ _ (by simp)).trans hk⟩, fun c hc => ?_, fun c hc => ⟨rfl, rfl⟩⟩
    have hx : ∀ j, j < n * 2 → w2.cell? ⟨w.heap.size + 1, j, none⟩ = some nilS := fun j hj => by
      have := HO.out.cellAt j hj
      simp only [World.size_alloc] at this
      rw [this]
      exact made_pair _ _ _ hj
    refine ⟨?_, ?_⟩ <;> rw [World.cell?_setCell_other (h := addr_ne (.inl (by omega)))]
    · exact hx _ (by omega)
    · exact hx _ (by omega)
  have HC0 := Lib.hid hC0
  have HB2 : Hid (Below w.heap.size w (w2.setCell ⟨w.heap.size, 2, none⟩ (.slice (some ⟨w.heap.size + 1, 0, none⟩) n n))) := Lib.hid (HB1.out.setCell (p := ⟨w.heap.size, 2, none⟩) (Nat.le_refl _) _)
  clear hC0 HO HX HB1 hx2 hxf hkb2
  generalize hcnt : cntF f n = cnt at *
  generalize w2.setCell ⟨w.heap.size, 2, none⟩ (.slice (some ⟨w.heap.size + 1, 0, none⟩) n n) = w3 at *
  obtain ⟨X, hX⟩ : ∃ X, X = w.heap.size := ⟨_, rfl⟩
  obtain ⟨kx, hkx⟩ : ∃ kx, kx = w.heap.size + 1 := ⟨_, rfl⟩
  rw [← hkx, ← hX] at HC0
  rw [← hX] at HB2
  rw [← hkx, ← hX]
  have HXE := Lib.hid hX
  have HKE := Lib.hid hkx
  clear hX hkx
  go_loopw [4, 5, 23] (fun _ _ i wr => ∃ k : Nat, k ≤ n ∧ i = .int .i64 k ∧ Below X w wr ∧ ∃ rv' sv', CloM wr X kx n size cnt k f rv' sv' cl) (fun _ _ i _ => n - (intOf i).toNat)
  case atStart => exact ⟨0, Nat.zero_le _, rfl, HB2.out, _, _, HC0.out⟩
  case round =>
    clear HC0 HB2
    obtain ⟨k, hk, rfl, hbel, rv', sv', hclo⟩ := hrel
    have HB := Lib.hid hbel
    have HC := Lib.hid hclo
    by_cases hlt2 : k < n
    · have hX := HXE.out
      rw [hX] at hbel
      have hSr := HS.out.mono hbel
      obtain ⟨k1, k2⟩ := hSr.kcell k hlt2
      obtain ⟨r, s, ar, cr, ay, cy, e1, e2, l1, l2, hr1, hr2, hpl⟩ := hSr.lists hlt2
      rw [e1] at k1 l1
      rw [e2] at k2 l2
      have HPL := Lib.hid hpl
      rw [e1, e2] at HPL
      have hbE : Below wr.heap.size wr (wr.alloc (.cells #[.slice ar r.length cr, .slice ay s.length cy] 82)).drew := ((Below.refl _ _).alloc (Nat.le_refl _) _).drew
      have HL1 := Lib.hid (l1.mono hbE)
      have HL2 := Lib.hid (l2.mono hbE)
      have HCE := Lib.hid (hclo.mono hbE)
      have HBE := Lib.hid (HB.out.trans (hbE.mono (by rw [hX]; exact hbel.size)))
      have hx2 : (wr.alloc (.cells #[.slice ar r.length cr, .slice ay s.length cy] 82)).drew.cell? ⟨X, 2, none⟩ = some (.slice (some ⟨kx, 0, none⟩) n n) := cell_of_heap (j := 2) HCE.out.obj rfl
      have hE : (wr.alloc (.cells #[.slice ar r.length cr, .slice ay s.length cy] 82)).drew.heap[wr.heap.size]? = some (.cells #[.slice ar r.length cr, .slice ay s.length cy] 82 (0, 0)) := heap_alloc_new wr _
      have HX2 : Hid ((wr.alloc (.cells #[.slice ar r.length cr, .slice ay s.length cy] 82)).drew.cell? ⟨X, 2, none⟩ = some (.slice (some ⟨kx, 0, none⟩) n n) ∧ (wr.alloc (.cells #[.slice ar r.length cr, .slice ay s.length cy] 82)).drew.cell? ⟨wr.heap.size, 0, none⟩ = some (.slice ar r.length cr) ∧ (wr.alloc (.cells #[.slice ar r.length cr, .slice ay s.length cy] 82)).drew.cell? ⟨wr.heap.size, 1, none⟩ = some (.slice ay s.length cy)) := Lib.hid ⟨hx2, cell_of_heap (j := 0) hE rfl, cell_of_heap (j := 1) hE rfl⟩
      have HXF : Hid (∀ W, Below (wr.alloc (.cells #[.slice ar r.length cr, .slice ay s.length cy] 82)).drew.heap.size (wr.alloc (.cells #[.slice ar r.length cr, .slice ay s.length cy] 82)).drew W → W.cell? ⟨X, 2, none⟩ = some (.slice (some ⟨kx, 0, none⟩) n n) ∧ W.cell? ⟨wr.heap.size, 0, none⟩ = some (.slice ar r.length cr) ∧ W.cell? ⟨wr.heap.size, 1, none⟩ = some (.slice ay s.length cy)) := Lib.hid fun W hW => ⟨cell_of_heap (j := 2) (HCE.out.mono hW).obj rfl, (hW.cell (p := ⟨wr.heap.size, 0, none⟩) (by simp)).trans HX2.out.2.1, (hW.cell (p := ⟨wr.heap.size, 1, none⟩) (by simp)).trans HX2.out.2.2⟩
      have hkne : kx ≠ wr.heap.size := by have := HC.out.klt; omega
      have HXG : Hid (∀ W u1 u2, Below (wr.alloc (.cells #[.slice ar r.length cr, .slice ay s.length cy] 82)).drew.heap.size (wr.alloc (.cells #[.slice ar r.length cr, .slice ay s.length cy] 82)).drew W → ((W.setCell ⟨kx, k * 2, none⟩ u1).setCell ⟨kx, k * 2 + 1, none⟩ u2).cell? ⟨X, 2, none⟩ = some (.slice (some ⟨kx, 0, none⟩) n n) ∧ ((W.setCell ⟨kx, k * 2, none⟩ u1).setCell ⟨kx, k * 2 + 1, none⟩ u2).cell? ⟨wr.heap.size, 0, none⟩ = some (.slice ar r.length cr) ∧ ((W.setCell ⟨kx, k * 2, none⟩ u1).setCell ⟨kx, k * 2 + 1, none⟩ u2).cell? ⟨wr.heap.size, 1, none⟩ = some (.slice ay s.length cy)) := Lib.hid fun W u1 u2 hW => by
        have hn := HC.out.ne
        obtain ⟨q1, q2, q3⟩ := HXF.out W hW
        refine ⟨?_, ?_, ?_⟩ <;> rw [World.cell?_setCell_other (h := addr_ne (.inl (by omega))), World.cell?_setCell_other (h := addr_ne (.inl (by omega)))]
        · exact q1
        · exact q2
        · exact q3
      clear hSr hbel hclo hpl l1 l2 hbE e1 e2 hx2 hX hE
      go_wp2_with fail
      (
        go_region_held3 (fun w' => w'.cell? ⟨X, 2, none⟩ = some (.slice (some ⟨kx, 0, none⟩) n n) ∧ w'.cell? ⟨wr.heap.size, 0, none⟩ = some (.slice ar r.length cr) ∧ w'.cell? ⟨wr.heap.size, 1, none⟩ = some (.slice ay s.length cy))
          (first | exact HX2.out | exact HXF.out _ HB5.out | exact HXG.out _ _ _ HB5.out | go_keep)
          (first
          | (go_at_call 30; (with_reducible refine (eqClone_any _ _ r s HL1.out HL2.out hr1 hr2).mono ?_); rintro e w5 ⟨p1, p2, rfl, ho1, ho2, hz1', hz2', hb5⟩; have HP5 := Lib.hid (HPL.out w5 _ p1 p2 ho1 ho2 hz1' hz2'); have HC5 := Lib.hid (HCE.out.mono hb5); have HB5 := Lib.hid hb5; obtain ⟨a1, c1, rfl, -, -⟩ := own_open ho1; obtain ⟨a2, c2, rfl, -, -⟩ := own_open ho2; obtain ⟨hq1, hq2⟩ := HC5.out.kcell k hlt2; obtain ⟨curq, hkq⟩ := HC5.out.kobj; have hf1 := frozen_of_heap (j := k * 2) hkq; have hf2 := frozen_of_heap (j := k * 2 + 1) hkq; clear ho1 ho2 hz1' hz2' hb5 hkq)))
      go_wp2
      go_roundw
      case rel =>
        have hz := HBE.out.size
        have hXe := HXE.out
        have hKe := HKE.out
        exact ⟨k + 1, by omega, by go_num, ((HBE.out.trans (HB5.out.mono (by rw [hXe]; exact hz))).setCell (p := ⟨kx, k * 2, none⟩) (by rw [hXe, hKe]; exact Nat.le_succ _) _).setCell (p := ⟨kx, k * 2 + 1, none⟩) (by rw [hXe, hKe]; exact Nat.le_succ _) _, _, _, HC5.out.put hlt2 HP5.out⟩
      case measure => simp [intOf]; omega
    · have hkn : k = n := by omega
      subst hkn
      clear hbel hclo hlt2
      go_wp2
      go_ret
      have hXe := HXE.out
      have hKe := HKE.out
      exact ⟨X, kx, rv', sv', rfl, CloM.full (by rw [hcnt]; exact HC.out) ⟨hn1, hn2, hs1, hs2⟩, by omega, by omega, by rw [← hXe]; exact HB.out⟩

theorem sysClone {w : World} {b n size r kb : Nat} {K : List Vec} {cl : Bool} (h : Sys w b n size K r cl kb) :
    Calls Tryd.prog 14 #[sysP b] w fun e w' => ∃ X kx, e = .returned (sysP X) ∧ Sys w' X n size K r cl kx ∧ w.heap.size ≤ X ∧ w.heap.size ≤ kx ∧ Below w.heap.size w w' := by
  obtain ⟨f, rv, sv, h1, h2, rfl⟩ := h
  refine (elClone_any b kb n size f rv sv cl h1).mono ?_
  rintro e w' ⟨X, kx, rv', sv', rfl, k1, k2, k3, k4⟩
  exact ⟨X, kx, rfl, ⟨f, rv', sv', k1, h2, rfl⟩, k2, k3, k4⟩
end Go.Proofs.YtnkkaggepokjeaaDoor
end

section
/- Slices of equations (two cells an element) of the call's own: append of such a slice, and of one more. -/
namespace Go.Proofs.YtnkkaggepokjeaaDoor
open Go.RowKit Go.Extern.Stop Go.Stop Go.Extern

theorem info_requ : (Tryd.prog.info? 86).map (fun i => (i.zero, i.size, i.bytes)) = some (some (.agg #[.slice none 0 0, .slice none 0 0]), 2, 48) := by kernel_rfl

/-- An element that lies in a block of its own kind that A names. -/
def ElA {α : Type} (f : α → Value) (te : TypeId) (A : Nat → Prop) (w : World) (x : Value) (r : List α) : Prop :=
  ListAt f w x r ∧ (0 < r.length → ∀ b, x.ownBlock = some b → A b ∧ ∃ cur, w.heap[b]? = some (.cells cur te (0, 0)))
section
variable {α : Type} {f : α → Value} {te e t : TypeId} {A A' : Nat → Prop} {w w' : World} {x v u : Value} {r : List α} {vs : List Value} {n size ob g j : Nat} {z : Nat × Nat} {cur : Array Value}
theorem ElA.mono (h : ElA f te A w x r) (hb : Below w.heap.size w w') : ElA f te A w' x r := by
  refine ⟨h.1.mono hb, fun hp b hx => ?_⟩
  obtain ⟨h1, cur, h2⟩ := h.2 hp b hx
  exact ⟨h1, cur, by rw [hb.block b (h.1.block hp b hx)]; exact h2⟩
theorem ElA.weaken (h : ElA f te A w x r) (hA : ∀ b, b < w.heap.size → A b → A' b) : ElA f te A' w x r :=
  ⟨h.1, fun hp b hx => ⟨hA b (h.1.block hp b hx) (h.2 hp b hx).1, (h.2 hp b hx).2⟩⟩
theorem ElA.own (h : w.ownsRow ob te 1 x n (r.map f)) (hA : ∀ b, ob ≤ b → A b) : ElA f te A w x r := by
  refine ⟨ListAt.of_owns h, fun _ b hx => ?_⟩
  rcases h.2 with ⟨rfl, _⟩ | ⟨g, cap, cur, rfl, hb, hg, _⟩
  · simp [Value.ownBlock] at hx
  · have : g = b := by simpa [Value.ownBlock] using hx
    subst this
    exact ⟨hA _ hb, cur, hg⟩
/-- What lies at its blocks alone matters. -/
theorem ElA.keep (h : ElA f te A w x r) (hs : ∀ (b : Nat) (cur : Array Value), A b → w.heap[b]? = some (.cells cur te (0, 0)) → w'.heap[b]? = w.heap[b]?) : ElA f te A w' x r := by
  by_cases hp : 0 < r.length
  · have hnb : ∀ b, x.ownBlock = some b → w'.heap[b]? = w.heap[b]? := fun b hx => by
      obtain ⟨h1, cur, h2⟩ := h.2 hp b hx
      exact hs b cur h1 h2
    obtain ⟨⟨a, cap, rfl, h1, h2, h3⟩, h4⟩ := h
    obtain ⟨b, off, rfl, hc⟩ := h3 hp
    have hnb' := hnb b rfl
    refine ⟨⟨_, cap, rfl, h1, h2, fun _ => ⟨b, off, rfl, fun j hj => ?_⟩⟩, fun _ b' hb' => ?_⟩
    · rw [World.cell?_of_block (w := w) (a := ⟨b, off + j, none⟩) hnb']; exact hc j hj
    · have : b = b' := by simpa [Value.ownBlock] using hb'
      subst this
      rw [hnb']
      exact h4 hp b rfl
  · obtain ⟨⟨a, cap, rfl, h1, h2, _⟩, _⟩ := h
    exact ⟨⟨a, cap, rfl, h1, h2, fun hp' => absurd hp' hp⟩, fun hp' => absurd hp' hp⟩
theorem ElA.grown (h : ElA f te A w x r) (hne : e ≠ te) (hown : w.ownsRow ob e size v n vs) (hg : w.grownBy w' v.ownBlock) : ElA f te A w' x r :=
  h.keep fun b cur _ hb => hg.block b (Array.getElem?_eq_some_iff.1 hb).1 fun hv => by
    rcases hown.2 with ⟨rfl, _⟩ | ⟨g, cap, cur', rfl, _, hgg, _⟩
    · simp [Value.ownBlock] at hv
    · have : b = g := by simpa [Value.ownBlock] using hv
      subst this
      rw [hb] at hgg
      cases hgg
      exact hne rfl
theorem ElA.set (h : ElA f te A w x r) (hg : w.heap[g]? = some (.cells cur t z)) (ht : t ≠ te) : ElA f te A (w.setCell ⟨g, j, none⟩ u) x r :=
  h.keep fun b cur' _ hb => Below.heap_setCell _ _ _ _ fun e => by
    rw [show b = g from e, hg] at hb
    cases hb
    exact ht rfl
theorem owns_set (h : w.ownsRow ob e size v n vs) (hg : w.heap[g]? = some (.cells cur t z)) (ht : t ≠ e) : (w.setCell ⟨g, j, none⟩ u).ownsRow ob e size v n vs := by
  refine ⟨h.1, ?_⟩
  rcases h.2 with h1 | ⟨b, cap, cur', h1, h2, h3, h4⟩
  · exact .inl h1
  · refine .inr ⟨b, cap, cur', h1, h2, (Below.heap_setCell _ _ _ _ fun e1 => ?_).trans h3, h4⟩
    rw [show b = g from e1, hg] at h3
    cases h3
    exact ht rfl
theorem owns_same {base : Nat} (h : w.ownsRow base e size v n vs) (hs : ∀ (b : Nat) (cur : Array Value), w.heap[b]? = some (.cells cur e (0, 0)) → w'.heap[b]? = w.heap[b]?) : w'.ownsRow base e size v n vs := by
  refine ⟨h.1, ?_⟩
  rcases h.2 with h1 | ⟨g, cap, cur, h1, h2, h3, h4⟩
  · exact .inl h1
  · exact .inr ⟨g, cap, cur, h1, h2, by rw [hs g cur h3]; exact h3, h4⟩
end

/-- What a list of cells says: two slices an equation. -/
def EqsEl (A : Nat → Prop) (w : World) (cs : List Value) (L : List Eqn) : Prop :=
  ∀ j, j < L.length → ∃ r s, cs[j * 2]? = some r ∧ cs[j * 2 + 1]? = some s ∧ ElA wordV 47 A w r (L.getD j noEq).1 ∧ ElA byteV 5 A w s (L.getD j noEq).2
/-- A list of equations of a call's own: its row lies from ob on, its equations' rows in blocks that A names. -/
def EqsOwn (ob : Nat) (A : Nat → Prop) (w : World) (v : Value) (L : List Eqn) : Prop :=
  ∃ cs : List Value, w.ownsRow ob 86 2 v L.length cs ∧ EqsEl A w cs L

theorem EqsOwn.mono {ob : Nat} {A : Nat → Prop} {w w' : World} {v : Value} {L : List Eqn} (h : EqsOwn ob A w v L) (hb : Below w.heap.size w w') : EqsOwn ob A w' v L := by
  obtain ⟨cs, h1, h2⟩ := h
  refine ⟨cs, owns_kept h1 hb, fun j hj => ?_⟩
  obtain ⟨r, s, c1, c2, e1, e2⟩ := h2 j hj
  exact ⟨r, s, c1, c2, e1.mono hb, e2.mono hb⟩
theorem EqsOwn.weaken {ob : Nat} {A A' : Nat → Prop} {w : World} {v : Value} {L : List Eqn} (h : EqsOwn ob A w v L) (hA : ∀ b, b < w.heap.size → A b → A' b) : EqsOwn ob A' w v L := by
  obtain ⟨cs, h1, h2⟩ := h
  refine ⟨cs, h1, fun j hj => ?_⟩
  obtain ⟨r, s, c1, c2, e1, e2⟩ := h2 j hj
  exact ⟨r, s, c1, c2, e1.weaken hA, e2.weaken hA⟩
theorem EqsOwn.low {ob ob' : Nat} {A : Nat → Prop} {w : World} {v : Value} {L : List Eqn} (h : EqsOwn ob A w v L) (hb : ob' ≤ ob) : EqsOwn ob' A w v L := by
  obtain ⟨cs, h1, h2⟩ := h
  exact ⟨cs, ownsRow_base h1 hb, h2⟩
theorem EqsOwn.nil (A : Nat → Prop) (w : World) : EqsOwn 0 A w nilS [] := ⟨[], World.ownsRow_nil _ _ _ _, fun j hj => by simp at hj⟩
theorem EqsOwn.keep {ob : Nat} {A : Nat → Prop} {w w' : World} {v : Value} {L : List Eqn} (h : EqsOwn ob A w v L) (h0 : ∀ (b : Nat) (cur : Array Value), w.heap[b]? = some (.cells cur 86 (0, 0)) → w'.heap[b]? = w.heap[b]?)
    (hs : ∀ (b : Nat) (cur : Array Value) (te : TypeId), te = 47 ∨ te = 5 → A b → w.heap[b]? = some (.cells cur te (0, 0)) → w'.heap[b]? = w.heap[b]?) : EqsOwn ob A w' v L := by
  obtain ⟨cs, h1, h2⟩ := h
  refine ⟨cs, owns_same h1 h0, fun j hj => ?_⟩
  obtain ⟨r, s, c1, c2, e1, e2⟩ := h2 j hj
  exact ⟨r, s, c1, c2, e1.keep fun b cur ha hb => hs b cur _ (.inl rfl) ha hb, e2.keep fun b cur ha hb => hs b cur _ (.inr rfl) ha hb⟩
theorem EqsOwn.at {ob : Nat} {A : Nat → Prop} {w : World} {v : Value} {L : List Eqn} (h : EqsOwn ob A w v L) : EqsAt w v L := by
  obtain ⟨cs, h1, h2⟩ := h
  have hl := h1.1
  rcases h1.2 with ⟨rfl, h0⟩ | ⟨g, cap, cur, rfl, hbg, hh, hc, hm, hs, htk⟩
  · exact ⟨none, 0, by rw [h0], by omega, Nat.zero_le _, fun hp => by omega⟩
  · refine ⟨_, _, rfl, hc, hm, fun hp => ⟨g, 0, rfl, fun j hj => ?_⟩⟩
    obtain ⟨r, s, c1, c2, e1, e2⟩ := h2 j hj
    refine ⟨r, s, ?_, ?_, e1.1, e2.1⟩
    · rw [World.ownsRow.cellAt h1 (0 + j * 2) (by omega), Nat.zero_add, c1]
    · rw [World.ownsRow.cellAt h1 (0 + j * 2 + 1) (by omega), Nat.zero_add, c2]

theorem eq_ne : 86 ≠ 47 ∧ 86 ≠ 5 := by decide
theorem getD_noEq {L : List Eqn} {q : Eqn} {j : Nat} : (L ++ [q]).getD j noEq = if j < L.length then L.getD j noEq else if j = L.length then q else noEq := getD_snoc L q noEq j

/-- One equation more. -/
theorem EqsOwn.snoc {ob : Nat} {A : Nat → Prop} {w w' : World} {v v' r s : Value} {L : List Eqn} {q : Eqn} {cs : List Value} (hown : w.ownsRow ob 86 2 v L.length cs) (hel : EqsEl A w cs L)
    (h1 : ElA wordV 47 A w r q.1) (h2 : ElA byteV 5 A w s q.2) (hown' : w'.ownsRow ob 86 2 v' (L.length + 1) (cs ++ [r, s])) (hg : w.grownBy w' v.ownBlock) : EqsOwn ob A w' v' (L ++ [q]) := by
  have hl := hown.1
  refine ⟨cs ++ [r, s], by rw [List.length_append]; exact hown', fun j hj => ?_⟩
  rw [getD_noEq]
  by_cases h : j < L.length
  · rw [if_pos h]
    obtain ⟨r', s', c1, c2, e1, e2⟩ := hel j h
    refine ⟨r', s', ?_, ?_, e1.grown eq_ne.1 hown hg, e2.grown eq_ne.2 hown hg⟩
    · rw [List.getElem?_append_left (by omega)]; exact c1
    · rw [List.getElem?_append_left (by omega)]; exact c2
  · have e : j = L.length := by simp at hj; omega
    rw [if_neg h, if_pos e]
    refine ⟨r, s, ?_, ?_, h1.grown eq_ne.1 hown hg, h2.grown eq_ne.2 hown hg⟩
    · rw [List.getElem?_append_right (by omega), show j * 2 - cs.length = 0 by omega]; rfl
    · rw [List.getElem?_append_right (by omega), show j * 2 + 1 - cs.length = 1 by omega]; rfl
/-- One equation more, laid in a block of its own first. -/
theorem EqsOwn.app {ob : Nat} {A : Nat → Prop} {w w' : World} {v v' r s : Value} {L : List Eqn} {q : Eqn} {cs : List Value} {o : Obj} (hown : w.ownsRow ob 86 2 v L.length cs) (hel : EqsEl A w cs L)
    (h1 : ElA wordV 47 A w r q.1) (h2 : ElA byteV 5 A w s q.2) (hown' : w'.ownsRow ob 86 2 v' (L.length + 1) (cs ++ [r, s])) (hg : (w.alloc o).grownBy w' v.ownBlock) : EqsOwn ob A w' v' (L ++ [q]) := by
  have hb : Below w.heap.size w (w.alloc o) := (Below.refl _ _).alloc (Nat.le_refl _) _
  refine EqsOwn.snoc (w := w.alloc o) (owns_kept hown hb) (fun j hj => ?_) (h1.mono hb) (h2.mono hb) hown' hg
  obtain ⟨r', s', c1, c2, e1, e2⟩ := hel j hj
  exact ⟨r', s', c1, c2, e1.mono hb, e2.mono hb⟩

/-- append of such a list onto an empty one of the call's own. -/
theorem wpList_append_eqs {P : Program} (w : World) {ops : Array Oper} {rest : List Oper} {o : Oper} {a : Act} {Q : Exit → Act → World → Prop} (hgd : o.guard = none) (s x : Operand) (t : TypeId)
    (ho : o.op = .call { callee := .builtin .append, args := #[s, x], argTypes := #[t, t] })
    (ob : Nat) (i : TypeInfo) (z : Value) (bytes : Nat) (ht : P.underlying t = some (.slice 86)) (hi : P.info? 86 = some i) (hz : i.zero = some z)
    (hsize : i.size = 2) (hby : i.bytes = bytes) (hzs : z.cells.size = 2)
    (v : Value) (hs : a.eval s = v) (hown : w.ownsRow ob 86 2 v 0 [])
    (src : Value) (L : List Eqn) (hx : a.eval x = src) (A : Nat → Prop) (ob0 : Nat) (hl : EqsOwn ob0 A w src L)
    (h63 : 0 + L.length ≤ maxLen) (hbytes : (0 + L.length) * bytes ≤ 140737488355328) (hbase : ob ≤ w.heap.size)
    (h : ∀ v' w', EqsOwn ob A w' v' L → w.grownBy w' v.ownBlock → wpList P ops Q rest (a.put o.dst v') w') : wpList P ops Q (o :: rest) a w := by
  obtain ⟨cs, hc1, hc2⟩ := hl
  have hlen := hc1.1
  have fin : ∀ v' w', w'.ownsRow ob 86 2 v' (0 + L.length) ([] ++ cs) → w.grownBy w' v.ownBlock → EqsOwn ob A w' v' L := fun v' w' h2 h3 => by
    rw [Nat.zero_add, List.nil_append] at h2
    refine ⟨cs, h2, fun j hj => ?_⟩
    obtain ⟨r, s, d1, d2, l1, l2⟩ := hc2 j hj
    exact ⟨r, s, d1, d2, l1.grown eq_ne.1 hown h3, l2.grown eq_ne.2 hown h3⟩
  rcases hc1.2 with ⟨rfl, h0⟩ | ⟨g, cap, cur, rfl, hbg, hh, hc, hm, hss, htk⟩
  · have hl0 : L = [] := List.eq_nil_of_length_eq_zero h0
    subst hl0
    obtain rfl : cs = [] := List.eq_nil_of_length_eq_zero (by simpa using hlen)
    refine wpList_plain hgd fun K hK => ?_
    have hrun := run_append_none_cap (P := P) (w := w) ob t o.type _ i 2 ht hi v 0 0 [] hown
    unfold Oper.wp
    simp [execOp, ho, resolve, invoke, builtin, hs, hx, hrun, Result.andThen]
    exact hK _ _ (h v w (fin v w (by simpa using hown) (World.grownBy.refl _ _)) (World.grownBy.refl _ _))
  · refine wpList_append_own w hgd s x t ho ob _ i z 2 bytes ht hi hz hsize hby hzs (by decide) v 0 [] hs hown ⟨g, 0, none⟩ L.length cap cs hx (by omega) (fun j u hu => ?_) (fun u hu => ?_) h63 hbytes hbase fun v' w' h2 h3 _ => h v' w' (fin v' w' h2 h3) h3
    · have hj : j < cs.length := (List.getElem?_eq_some_iff.1 hu).1
      rw [Go.WideShapes.add_plain, World.ownsRow.cellAt hc1 (0 + j) (by omega), Nat.zero_add]
      exact hu
    · obtain ⟨i, hi, rfl⟩ := List.getElem_of_mem hu
      obtain ⟨r, s, d1, d2, l1, l2⟩ := hc2 (i / 2) (by omega)
      rcases Nat.mod_two_eq_zero_or_one i with e | e
      · rw [show i / 2 * 2 = i by omega, List.getElem?_eq_getElem hi] at d1
        obtain ⟨_, _, rfl, _⟩ := l1.1
        rw [Option.some.inj d1]; rfl
      · rw [show i / 2 * 2 + 1 = i by omega, List.getElem?_eq_getElem hi] at d2
        obtain ⟨_, _, rfl, _⟩ := l2.1
        rw [Option.some.inj d2]; rfl

theorem EqsOwn.set {ob g j : Nat} {A : Nat → Prop} {t : TypeId} {z : Nat × Nat} {cur : Array Value} {w : World} {v u : Value} {L : List Eqn} (h : EqsOwn ob A w v L) (hg : w.heap[g]? = some (.cells cur t z)) (ht : t ≠ 86 ∧ t ≠ 47 ∧ t ≠ 5) : EqsOwn ob A (w.setCell ⟨g, j, none⟩ u) v L := by
  obtain ⟨cs, h1, h2⟩ := h
  refine ⟨cs, owns_set h1 hg ht.1, fun j hj => ?_⟩
  obtain ⟨r, s, c1, c2, e1, e2⟩ := h2 j hj
  exact ⟨r, s, c1, c2, e1.set hg ht.2.1, e2.set hg ht.2.2⟩
end Go.Proofs.YtnkkaggepokjeaaDoor
end

section
/- What a system tells, by the document and by the program: Value and All, at any column, whatever is kept. -/
namespace Go.Proofs.YtnkkaggepokjeaaDoor
open Go.RowKit Go.Extern.Stop Go.Stop Go.Extern

open Classical in
/-- Where all is kept, all is known. -/
theorem Sys.known {w : World} {b n size kb : Nat} {K : List Vec} {cl : Bool} (h : Sys w b n size K n cl kb) : ∀ c, c < n → ∃ x, ValV n K c x := by
  obtain ⟨f, rv, sv, h1, h2, h3⟩ := h
  have key : ∀ m, ∀ c, n ≤ c + m → c < n → ∃ x, ValV n (stL (uF f n) n) c x := by
    intro m
    induction m with
    | zero => intro c h4 h5; omega
    | succ m ih =>
      intro c h4 h5
      by_cases h6 : n ≤ c + m
      · exact ih c h6 h5
      obtain ⟨q, ar, cr, ay, cy, e0, -, -, -, -, e5, e6⟩ := h1.full h3 h5
      have hX : ∃ X : Nat → Vec, ∀ d, c < d → d < n → ValV n (stL (uF f n) n) d (X d) := by
        refine ⟨fun d => if h : ∃ x, ValV n (stL (uF f n) n) d x then Classical.choose h else vzero, fun d hd1 hd2 => ?_⟩
        have he := ih d (by omega) hd2
        simp only [dif_pos he]
        exact Classical.choose_spec he
      obtain ⟨X, hX⟩ := hX
      obtain ⟨x, hx, -⟩ := back_val (V := (List.range n).map fun d => if d = c then q.2 else symV n size (X d)) e5 e6 h5 (.mem (mem_stL.2 ⟨c, h5, uF_some e0⟩)) (by rw [List.getD_eq_getElem?_getD, List.getElem?_map, List.getElem?_range h5]; simp) (fun d hd1 hd2 => ⟨X d, hX d hd1 hd2, by
        rw [List.getD_eq_getElem?_getD, List.getElem?_map, List.getElem?_range hd2]
        simp
        intro e; omega⟩)
      exact ⟨x, hx⟩
  intro c hc
  obtain ⟨x, hx⟩ := key n c (by omega) hc
  exact ⟨x, hx.congr h2⟩

/-- A system of the program's and one of the document's, which have kept the same. -/
structure PlayS (w : World) (b kb n size : Nat) (L : List Eqn) (cl : Bool) (v : Value) : Prop where
  sys : Sys w b n size (vecsE L n) L.length cl kb
  eqs : EqsOwn 0 (fun _ => True) w v L
  ok : ∀ p ∈ L, EqOk n size p
  low : n ≤ 12 ∧ size ≤ 4
theorem PlayS.mono {w w' : World} {b kb n size : Nat} {L : List Eqn} {cl : Bool} {v : Value} (h : PlayS w b kb n size L cl v) (hb : Below w.heap.size w w') : PlayS w' b kb n size L cl v :=
  ⟨h.sys.mono hb, h.eqs.mono hb, h.ok, h.low⟩

/-- What Value says. -/
def ValSays (n size : Nat) (L : List Eqn) (cl : Bool) (cI : Int) (k : Int) (l : List Nat) : Prop :=
  (cl = true ∧ k = 7 ∧ l = []) ∨ (cl = false ∧ (((cI < 0 ∨ (n : Int) ≤ cI) ∧ k = 1 ∧ l = []) ∨ ∃ c : Nat, cI = c ∧ c < n ∧ ((¬ Sp ((vecsE L n).map (proj n)) (unitV c) ∧ k = 4 ∧ l = []) ∨ ∃ x, ValV n (vecsE L n) c x ∧ k = 0 ∧ l = symV n size x)))
theorem valSays_some (n size : Nat) (L : List Eqn) (cl : Bool) (cI : Int) : ∃ k l, ValSays n size L cl cI k l := by
  cases cl with
  | true => exact ⟨7, [], .inl ⟨rfl, rfl, rfl⟩⟩
  | false =>
    by_cases h : cI < 0 ∨ (n : Int) ≤ cI
    · exact ⟨1, [], .inr ⟨rfl, .inl ⟨h, rfl, rfl⟩⟩⟩
    · obtain ⟨c, rfl⟩ : ∃ c : Nat, cI = c := ⟨cI.toNat, by omega⟩
      by_cases hs : Sp ((vecsE L n).map (proj n)) (unitV c)
      · obtain ⟨x, hx⟩ := ValV.exists hs
        exact ⟨0, _, .inr ⟨rfl, .inr ⟨c, rfl, by omega, .inr ⟨x, hx, rfl, rfl⟩⟩⟩⟩
      · exact ⟨4, [], .inr ⟨rfl, .inr ⟨c, rfl, by omega, .inl ⟨hs, rfl, rfl⟩⟩⟩⟩

section
variable {w : World} {b kb n size : Nat} {L : List Eqn} {cl : Bool} {v : Value}

theorem elVal_says (h : PlayS w b kb n size L cl v) (hT : Tab w) {cI k : Int} {l : List Nat} (hs : ValSays n size L cl cI k l) :
    Calls Tryd.prog 22 #[sysP b, .int .i64 cI] w fun e w' => ∃ v' E, e = .returned (.tuple #[v', E]) ∧ ListAt byteV w' v' l ∧ ErrAns k nameElValue w' E ∧ Below w.heap.size w w' := by
  obtain ⟨c0, c1, c2, c3, c4⟩ := h.sys.cells
  rcases hs with ⟨rfl, rfl, rfl⟩ | ⟨rfl, ⟨ho, rfl, rfl⟩ | ⟨c, rfl, hc, hv⟩⟩
  · refine (elVal_over b _ c4).mono ?_
    rintro e w' ⟨E, rfl, he, hb⟩
    exact ⟨_, E, rfl, ListAt.nil _ _, he, hb⟩
  · refine (elVal_range b n cI c0 c4 (by have := h.low.1; omega) ho).mono ?_
    rintro e w' ⟨E, rfl, he, hb⟩
    exact ⟨_, E, rfl, ListAt.nil _ _, he, hb⟩
  · refine (sysVal b n size _ _ kb c h.sys hT hc).mono ?_
    rintro e w' ⟨hb, ⟨hno, E, rfl, he⟩ | ⟨x, v', hx, rfl, ho⟩⟩
    · rcases hv with ⟨-, rfl, rfl⟩ | ⟨y, hy, -⟩
      · exact ⟨_, E, rfl, ListAt.nil _ _, he, hb⟩
      · exact absurd hy.known hno
    · rcases hv with ⟨hno, -⟩ | ⟨y, hy, rfl, rfl⟩
      · exact absurd hx.known hno
      · rw [hx.unique h.sys.cons hy] at ho
        exact ⟨_, _, rfl, ListAt.of_owns ho, ErrAns.none _ _, hb⟩

theorem refVal_says (h : PlayS w b kb n size L cl v) {cI k : Int} {l : List Nat} (hs : ValSays n size L cl cI k l) :
    Calls Tryd.prog 39 #[sysV n size v cl, .int .i64 cI] w fun e w' => ∃ v', e = .returned (.tuple #[v', .int .i64 k]) ∧ ListAt byteV w' v' l ∧ Below w.heap.size w w' := by
  obtain ⟨-, -, -, hn1, hn2, hs1, hs2, hr⟩ := h.sys.base
  obtain ⟨hn12, hs4⟩ := h.low
  rcases hs with ⟨rfl, rfl, rfl⟩ | ⟨rfl, ⟨ho, rfl, rfl⟩ | ⟨c, rfl, hc, hv⟩⟩
  · refine (Value_clash (n : Int) (size : Int) cI v).mono ?_
    rintro e w' ⟨rfl, hb⟩
    exact ⟨_, rfl, ListAt.nil _ _, hb⟩
  · refine (Value_out (n : Int) (size : Int) cI v ho).mono ?_
    rintro e w' ⟨rfl, hb⟩
    exact ⟨_, rfl, ListAt.nil _ _, hb⟩
  · rcases hv with ⟨hno, rfl, rfl⟩ | ⟨y, hy, rfl, rfl⟩
    · refine (Value_none n size v L c h.eqs.at h.ok (by omega) (by omega) hc hno).mono ?_
      rintro e w' ⟨rfl, hb⟩
      exact ⟨_, rfl, ListAt.nil _ _, hb⟩
    · refine (Value_some n size v L c h.eqs.at h.ok (by omega) (by omega) hc hs1 hs2 h.sys.cons y hy).mono ?_
      rintro e w' ⟨v', rfl, ho, hb⟩
      exact ⟨_, rfl, ListAt.of_owns ho, hb⟩

/-- What All says. -/
def AllSays (n size : Nat) (L : List Eqn) (cl : Bool) (k : Int) (V : List (List Nat)) : Prop :=
  (cl = true ∧ k = 7 ∧ V = []) ∨ (cl = false ∧ ((L.length < n ∧ k = 4 ∧ V = []) ∨ (L.length = n ∧ k = 0 ∧ ∃ X : Nat → Vec, (∀ c, c < n → ValV n (vecsE L n) c (X c)) ∧ V = (List.range n).map fun c => symV n size (X c))))
theorem allSays_some (h : PlayS w b kb n size L cl v) : ∃ k V, AllSays n size L cl k V := by
  obtain ⟨-, -, -, hn1, hn2, hs1, hs2, hr⟩ := h.sys.base
  cases cl with
  | true => exact ⟨7, [], .inl ⟨rfl, rfl, rfl⟩⟩
  | false =>
    by_cases hl : L.length < n
    · exact ⟨4, [], .inr ⟨rfl, .inl ⟨hl, rfl, rfl⟩⟩⟩
    · have hln : L.length = n := by omega
      have hk := Sys.known (by have := h.sys; rw [hln] at this; exact this)
      have hX : ∃ X : Nat → Vec, ∀ c, c < n → ValV n (vecsE L n) c (X c) := by
        refine ⟨fun d => if hd : d < n then Classical.choose (hk d hd) else vzero, fun d hd => ?_⟩
        simp only [dif_pos hd]
        exact Classical.choose_spec (hk d hd)
      obtain ⟨X, hX⟩ := hX
      exact ⟨0, _, .inr ⟨rfl, .inr ⟨hln, rfl, X, hX, rfl⟩⟩⟩

theorem elAll_says (h : PlayS w b kb n size L cl v) {k : Int} {V : List (List Nat)} (hs : AllSays n size L cl k V) :
    Calls Tryd.prog 23 #[sysP b] w fun e w' => ∃ v' E, e = .returned (.tuple #[v', E]) ∧ MatAt byteV w' v' V ∧ ErrAns k nameElAll w' E ∧ Below w.heap.size w w' := by
  rcases hs with ⟨rfl, rfl, rfl⟩ | ⟨rfl, ⟨hl, rfl, rfl⟩ | ⟨hl, rfl, X, hX, rfl⟩⟩
  · refine (sysAll_over b n size _ _ kb h.sys).mono ?_
    rintro e w' ⟨E, rfl, he, hb⟩
    exact ⟨_, E, rfl, MatAt.nil _ _, he, hb⟩
  · refine (sysAll_none b n size _ _ kb h.sys (by omega)).mono ?_
    rintro e w' ⟨E, rfl, he, hb⟩
    exact ⟨_, E, rfl, MatAt.nil _ _, he, hb⟩
  · refine (sysAll_some b n size _ kb (by have := h.sys; rw [hl] at this; exact this)).mono ?_
    rintro e w' ⟨v', V, rfl, hv, hvl, hvv, hb⟩
    have : V = (List.range n).map fun c => symV n size (X c) := by
      apply List.ext_getElem (by simp [hvl])
      intro c h1 h2
      obtain ⟨x, hx, he⟩ := hvv c (by omega)
      rw [hx.unique h.sys.cons (hX c (by omega))] at he
      rw [List.getD_eq_getElem?_getD, List.getElem?_eq_getElem h1] at he
      simpa using he
    rw [this] at hv
    exact ⟨_, _, rfl, hv, ErrAns.none _ _, hb⟩

theorem refAll_says (h : PlayS w b kb n size L cl v) {k : Int} {V : List (List Nat)} (hs : AllSays n size L cl k V) :
    Calls Tryd.prog 40 #[sysV n size v cl] w fun e w' => ∃ v', e = .returned (.tuple #[v', .int .i64 k]) ∧ MatAt byteV w' v' V ∧ Below w.heap.size w w' := by
  obtain ⟨-, -, -, hn1, hn2, hs1, hs2, hr⟩ := h.sys.base
  obtain ⟨hn12, hs4⟩ := h.low
  rcases hs with ⟨rfl, rfl, rfl⟩ | ⟨rfl, ⟨hl, rfl, rfl⟩ | ⟨hl, rfl, X, hX, rfl⟩⟩
  · refine (refAll_clash (n : Int) (size : Int) v).mono ?_
    rintro e w' ⟨rfl, hb⟩
    exact ⟨_, rfl, MatAt.nil _ _, hb⟩
  · refine (refAll_short (n : Int) (size : Int) v L h.eqs.at (by omega)).mono ?_
    rintro e w' ⟨rfl, hb⟩
    exact ⟨_, rfl, MatAt.nil _ _, hb⟩
  · exact refAll_some n size v L X h.eqs.at h.ok hn1 (by omega) (by omega) hs1 hs2 h.sys.cons hX (by omega)
end
end Go.Proofs.YtnkkaggepokjeaaDoor
end

section
/- Package geyserref05: Add. -/
namespace Go.Proofs.YtnkkaggepokjeaaDoor
open Go.RowKit Go.Extern.Stop Go.Stop Go.Extern

theorem made_own {base size : Nat} {w : World} (e : TypeId) (hb : base ≤ w.heap.size) (_ : 0 < size) : (w.alloc (.cells #[] e)).ownsRow base e size (.slice (some ⟨w.heap.size, 0, none⟩) 0 0) 0 [] :=
  World.ownsRow_made (base := base) (e := e) (size := size) w #[] 0 hb (Nat.zero_le _) (by simp)
theorem made_below {base : Nat} {w0 w w' : World} {e : TypeId} (hB : Below base w0 w) (hb : base ≤ w.heap.size) (hg : (w.alloc (.cells #[] e)).grownBy w' (Value.slice (some ⟨w.heap.size, 0, none⟩) 0 0).ownBlock) : Below base w0 w' :=
  (hB.alloc hb _).grown hg (by simp; omega) fun k hk => ((made_own (size := 1) e hb (by decide)).lt k hk).1

/-- Three results, the first one a struct that lies in a block of its own. -/
theorem results_row3 {P : Program} {fn : Func} {p t u : Tmp} {ty : TypeId} (h : fn.results = #[.cell p ty, .tmp t, .tmp u]) (tmps : Array Value) (w : World) (g : Nat) (tt : TypeId) (cs : Array Value) (fr : Nat × Nat) (d : TypeDesc)
    (hp : tmps.getD p undef = .pointer (some ⟨g, 0, none⟩)) (hg : w.heap[g]? = some (.cells cs tt fr))
    (hu : P.underlying ty = some d) (hd : (match d with | .struct _ | .array _ _ => true | _ => false) = true) (hi : (P.info? ty).map (·.size) = some cs.size) :
    (results fn tmps).run P w = .ok (.tuple #[.agg cs, tmps.getD t undef, tmps.getD u undef]) w := by
  have hp' : tmps[p]?.getD undef = .pointer (some ⟨g, 0, none⟩) := by simpa using hp
  simp [results, h, hp', asAddr, run_loadVar_row w g tt ty cs fr d hg hu hd hi]

def sysC (n size : Int) (v : Value) (c : Bool) : Array Value := #[.int .i64 n, .int .i64 size, v, .bool c]

/-- Add's two boxes: its system, its result. -/
structure AddBox (W : World) (B : Nat) (n size : Int) (v : Value) (c : Bool) : Prop where
  h0 : W.heap[B]? = some (.cells (sysC n size v c) 36 (0, 0))
  h1 : W.heap[B + 1]? = some (.cells (sysC 0 0 nilS false) 36 (0, 0))
theorem AddBox.mono {W W' : World} {B : Nat} {n size : Int} {v : Value} {c : Bool} (h : AddBox W B n size v c) (hb : Below W.heap.size W W') : AddBox W' B n size v c :=
  ⟨(hb.block _ (Array.getElem?_eq_some_iff.1 h.h0).1).trans h.h0, (hb.block _ (Array.getElem?_eq_some_iff.1 h.h1).1).trans h.h1⟩
theorem add_laid (w : World) (n size : Int) (v : Value) (c : Bool) : ∃ w0, w0 = (w.alloc (.cells #[.int .i64 n, .int .i64 size, v, .bool c] 36)).alloc (.cells #[.int .i64 0, .int .i64 0, .slice none 0 0, .bool false] 36) ∧ Below w.heap.size w w0 ∧ w0.heap.size = w.heap.size + 1 + 1 ∧ AddBox w0 w.heap.size n size v c := by
  have z1 : (w.alloc (.cells #[.int .i64 n, .int .i64 size, v, .bool c] 36)).heap.size = w.heap.size + 1 := World.size_alloc _ _
  have a1 := heap_alloc_new w (.cells #[.int .i64 n, .int .i64 size, v, .bool c] 36)
  have a2 := heap_alloc_new (w.alloc (.cells #[.int .i64 n, .int .i64 size, v, .bool c] 36)) (.cells #[.int .i64 0, .int .i64 0, .slice none 0 0, .bool false] 36)
  rw [z1] at a2
  refine ⟨_, rfl, ((Below.refl _ _).alloc (Nat.le_refl _) _).alloc (by omega) _, by rw [World.size_alloc, z1], ?_, a2⟩
  rw [Below.heap_alloc _ _ _ (by omega)]; exact a1
/-- What is stored in the result. -/
theorem AddBox.done {W : World} {B : Nat} {n size : Int} {v : Value} {c : Bool} (h : AddBox W B n size v c) (n2 s2 v2 c2 : Value) : ((((W.setCell ⟨B + 1, 0, none⟩ n2).setCell ⟨B + 1, 1, none⟩ s2).setCell ⟨B + 1, 2, none⟩ v2).setCell ⟨B + 1, 3, none⟩ c2).heap[B + 1]? = some (.cells #[n2, s2, v2, c2] 36 (0, 0)) :=
  heap_setCell_at (heap_setCell_at (heap_setCell_at (heap_setCell_at h.h1)))

theorem AddBox.done3 {W : World} {B : Nat} {n size : Int} {v : Value} {c : Bool} (h : AddBox W B n size v c) (x n2 s2 v2 c2 : Value) : (((((W.setCell ⟨B, 3, none⟩ x).setCell ⟨B + 1, 0, none⟩ n2).setCell ⟨B + 1, 1, none⟩ s2).setCell ⟨B + 1, 2, none⟩ v2).setCell ⟨B + 1, 3, none⟩ c2).heap[B + 1]? = some (.cells #[n2, s2, v2, c2] 36 (0, 0)) :=
  heap_setCell_at (heap_setCell_at (heap_setCell_at (heap_setCell_at ((Below.heap_setCell _ _ _ _ (by simp)).trans h.h1))))

theorem AddBox.done4 {W : World} {B : Nat} {n size : Int} {v : Value} {c : Bool} (h : AddBox W B n size v c) (y x n2 s2 v2 c2 : Value) : ((((((W.setCell ⟨B, 2, none⟩ y).setCell ⟨B, 3, none⟩ x).setCell ⟨B + 1, 0, none⟩ n2).setCell ⟨B + 1, 1, none⟩ s2).setCell ⟨B + 1, 2, none⟩ v2).setCell ⟨B + 1, 3, none⟩ c2).heap[B + 1]? = some (.cells #[n2, s2, v2, c2] 36 (0, 0)) :=
  heap_setCell_at (heap_setCell_at (heap_setCell_at (heap_setCell_at ((Below.heap_setCell _ _ _ _ (by simp)).trans ((Below.heap_setCell _ _ _ _ (by simp)).trans h.h1)))))

set_option maxRecDepth 1000000 in
theorem refAdd_clash {w : World} (n size : Int) (v vr vs0 : Value) (L : List Eqn) (h : EqsAt w v L) :
    Calls Tryd.prog 15 #[sysV n size v true, vr, vs0] w fun e w' => e = .returned (.tuple #[sysV n size v true, .int .i64 0, .int .i64 7]) ∧ Below w.heap.size w w' := by
  obtain ⟨ad, cap, rfl, -, -, -⟩ := h
  have HB0 := Lib.hid (((Below.refl w.heap.size w).alloc (Nat.le_refl _) (.cells #[.int .i64 n, .int .i64 size, .slice ad L.length cap, .bool true] 36)).alloc (by simp) (.cells #[.int .i64 n, .int .i64 size, .slice ad L.length cap, .bool true] 36))
  unfold sysV
  go_enter Tryd.func15, Tryd.ntmps15
  go_wp2
  refine bodyPost_ret (results_row3 rfl _ _ (w.heap.size + 1) 36 _ (0, 0) _ rfl (heap_alloc2_new w _ _) Tryd.underlying36 rfl (by kernel_rfl)) rfl ?_
  exact ⟨rfl, HB0.out⟩

set_option maxRecDepth 1000000 in
theorem refAdd_form {w : World} (n size : Nat) (v v1 v2 : Value) (L : List Eqn) (row sym : List Nat) (h : EqsAt w v L) (hr : ListAt wordV w v1 row) (hs : ListAt byteV w v2 sym) (hw : Word row) (hn : n ≤ 4096) (hno : ¬ (wholeB n row = true ∧ sym.length = size)) :
    Calls Tryd.prog 15 #[sysV n size v false, v1, v2] w fun e w' => e = .returned (.tuple #[sysV n size v false, .int .i64 0, .int .i64 2]) ∧ Below w.heap.size w w' := by
  have HE := Lib.hid h
  obtain ⟨ad, cap, rfl, -, -, -⟩ := h
  obtain ⟨w0, hw0, hb0, hs0, hbx⟩ := add_laid w n size (.slice ad L.length cap) false
  have HB0 := Lib.hid hb0
  have HBX := Lib.hid hbx
  have HW0 := Lib.hid hw0
  have HR := Lib.hid (hr.mono hb0)
  have HWD := Lib.hid hw
  have hlen := hs.len
  obtain ⟨a1, cp1, rfl, -, -, -⟩ := hr
  obtain ⟨a2, cp2, rfl, -, -, -⟩ := hs
  have c0 := cell_of_heap (j := 0) (u := .int .i64 n) hbx.h0 rfl
  have c1 := cell_of_heap (j := 1) (u := .int .i64 size) hbx.h0 rfl
  have c2 := cell_of_heap (j := 2) (u := .slice ad L.length cap) hbx.h0 rfl
  have c3 := cell_of_heap (j := 3) (u := .bool false) hbx.h0 rfl
  have r0 := cell_of_heap (j := 0) (u := .int .i64 0) hbx.h1 rfl
  have r1 := cell_of_heap (j := 1) (u := .int .i64 0) hbx.h1 rfl
  have r2 := cell_of_heap (j := 2) (u := nilS) hbx.h1 rfl
  have r3 := cell_of_heap (j := 3) (u := .bool false) hbx.h1 rfl
  have f0 := frozen_of_heap (j := 0) hbx.h1
  have f1 := frozen_of_heap (j := 1) hbx.h1
  have f2 := frozen_of_heap (j := 2) hbx.h1
  have f3 := frozen_of_heap (j := 3) hbx.h1
  have HB1 := Lib.hid ((((hb0.setCell (p := ⟨w.heap.size + 1, 0, none⟩) (Nat.le_succ _) (.int .i64 (n : Int))).setCell (p := ⟨w.heap.size + 1, 1, none⟩) (Nat.le_succ _) (.int .i64 (size : Int))).setCell (p := ⟨w.heap.size + 1, 2, none⟩) (Nat.le_succ _) (.slice ad L.length cap)).setCell (p := ⟨w.heap.size + 1, 3, none⟩) (Nat.le_succ _) (.bool false))
  clear hb0 hbx hw0 hw
  unfold sysV
  cases hb : wholeB n row with
  | false =>
    have HWB := Lib.hid hb
    clear hb hno
    go_enter Tryd.func15, Tryd.ntmps15
    go_wp2_with fail
    rw [← HW0.out]
    refine (Whole_any _ row n HR.out HWD.out hn).mono ?_
    rintro e w1 ⟨rfl, rfl⟩
    rw [HWB.out]
    go_wp2
    refine bodyPost_ret (results_row3 rfl _ _ (w.heap.size + 1) 36 _ (0, 0) _ rfl (HBX.out.done _ _ _ _) Tryd.underlying36 rfl (by kernel_rfl)) rfl ?_
    exact ⟨rfl, HB1.out⟩
  | true =>
    have HWB := Lib.hid hb
    have hne : ¬ sym.length = size := fun e => hno ⟨hb, e⟩
    have hq1 : ((sym.length : Int) != (size : Int)) = true := by simp; omega
    have hq2 : ((sym.length : Int) == (size : Int)) = false := by simp; omega
    clear hb hno
    go_enter Tryd.func15, Tryd.ntmps15
    go_wp2_with fail
    rw [← HW0.out]
    refine (Whole_any _ row n HR.out HWD.out hn).mono ?_
    rintro e w1 ⟨rfl, rfl⟩
    rw [HWB.out]
    go_wp2
    refine bodyPost_ret (results_row3 rfl _ _ (w.heap.size + 1) 36 _ (0, 0) _ rfl (HBX.out.done _ _ _ _) Tryd.underlying36 rfl (by kernel_rfl)) rfl ?_
    exact ⟨rfl, HB1.out⟩

theorem kindQ_is (L : List Eqn) (n : Nat) (q : Eqn) : kindQ L n q = 1 ∨ kindQ L n q = 2 ∨ kindQ L n q = 3 := by
  unfold kindQ kindV
  split
  · split
    · exact .inr (.inl rfl)
    · exact .inr (.inr rfl)
  · exact .inl rfl

set_option maxRecDepth 1000000 in
set_option maxHeartbeats 4000000 in
theorem refAdd_some {w : World} (n size : Nat) (v v1 v2 : Value) (L : List Eqn) (q : Eqn) (A : Nat → Prop) (hA : ∀ g, w.heap.size ≤ g → A g) (hO : EqsOwn 0 A w v L) (hr : ListAt wordV w v1 q.1) (hs : ListAt byteV w v2 q.2) (hok : ∀ p ∈ L, EqOk n size p) (hq : EqOk n size q) (hn : n + 8 * size ≤ 4096) (hsz : size ≤ 64) (hl : L.length ≤ 4095) :
    Calls Tryd.prog 15 #[sysV n size v false, v1, v2] w fun e w' => ∃ v', e = .returned (.tuple #[sysV n size v' (decide (kindQ L n q = 3)), .int .i64 ((kindQ L n q : Nat) : Int), .int .i64 0]) ∧ EqsOwn 0 A w' v' (if kindQ L n q = 1 then L ++ [q] else L) ∧ Below w.heap.size w w' := by
  have hn4 : n ≤ 4096 := by omega
  have h := hO.at
  have HOO := Lib.hid hO
  have HAA := Lib.hid hA
  clear hO hA
  have hE := h
  have HWB : Hid (wholeB n q.1 = true) := Lib.hid (wholeB_iff.2 ⟨hq.1, hq.2.2.1⟩)
  have hsl : q.2.length = size := hq.2.2.2.1
  have hrl : q.1.length = kOf n := hq.1
  have hkn : kOf n ≤ 64 := kOf_le hn4
  obtain ⟨ad, cap, rfl, hcap, hcm, -⟩ := h
  have HE := Lib.hid hE
  obtain ⟨w0, hw0, hb0, hs0, hbx⟩ := add_laid w n size (.slice ad L.length cap) false
  have HB0 := Lib.hid hb0
  have HBX := Lib.hid hbx
  have HW0 := Lib.hid hw0
  have HR0 := Lib.hid hr
  have HS0 := Lib.hid hs
  have HR := Lib.hid (hr.mono hb0)
  have HWD := Lib.hid hq.2.1
  have HKK : Hid (∀ w', Below w.heap.size w w' → Calls Tryd.prog 32 #[sysV n size (.slice ad L.length cap) false, v1, v2] w' fun e w'' => e = .returned (.int .i64 ((kindQ L n q : Nat) : Int)) ∧ Below w'.heap.size w' w'') := Lib.hid fun w' hb => Kind_any n size _ v1 v2 false L q (hE.mono hb) (hr.mono hb) (hs.mono hb) hok hq hn hsz hl
  obtain ⟨row, sym⟩ := q
  simp only at hsl hrl HWB HR0 HS0 HR HWD hr hs HKK ⊢
  obtain ⟨a1, cp1, rfl, -, -, -⟩ := hr
  obtain ⟨a2, cp2, rfl, -, -, -⟩ := hs
  have c0 := cell_of_heap (j := 0) (u := .int .i64 n) hbx.h0 rfl
  have c1 := cell_of_heap (j := 1) (u := .int .i64 size) hbx.h0 rfl
  have c2 := cell_of_heap (j := 2) (u := .slice ad L.length cap) hbx.h0 rfl
  have c3 := cell_of_heap (j := 3) (u := .bool false) hbx.h0 rfl
  have hq1 : ((sym.length : Int) != (size : Int)) = false := by simp; omega
  have hq2 : ((sym.length : Int) == (size : Int)) = true := by simp; omega
  have hkk := kindQ_is L n (row, sym)
  generalize hkq : kindQ L n (row, sym) = kq at *
  have HKQ := Lib.hid hkk
  have HSL := Lib.hid hsl
  have HRL := Lib.hid hrl
  clear hb0 hbx hw0 hq hE hok hkk hsl hrl hkq
  unfold sysV at HKK ⊢
  go_enter Tryd.func15, Tryd.ntmps15
  go_wp2_with fail
  rw [← HW0.out]
  refine (Whole_any _ row n HR.out HWD.out hn4).mono ?_
  rintro e w1 ⟨rfl, rfl⟩
  rw [HWB.out]
  go_wp2_with fail
  refine (HKK.out _ HB0.out).mono ?_
  rintro e w1 ⟨rfl, hb1⟩
  have hbx1 := HBX.out.mono hb1
  have HBX1 := Lib.hid hbx1
  have hsz1 := hb1.size
  have HB1 := Lib.hid (HB0.out.trans (hb1.mono (by omega)))
  have c0 := cell_of_heap (j := 0) (u := .int .i64 n) hbx1.h0 rfl
  have c1 := cell_of_heap (j := 1) (u := .int .i64 size) hbx1.h0 rfl
  have c2 := cell_of_heap (j := 2) (u := .slice ad L.length cap) hbx1.h0 rfl
  have c3 := cell_of_heap (j := 3) (u := .bool false) hbx1.h0 rfl
  have g0 := frozen_of_heap (j := 0) hbx1.h0
  have g1 := frozen_of_heap (j := 1) hbx1.h0
  have g2 := frozen_of_heap (j := 2) hbx1.h0
  have g3 := frozen_of_heap (j := 3) hbx1.h0
  have r0 := cell_of_heap (j := 0) (u := .int .i64 0) hbx1.h1 rfl
  have r1 := cell_of_heap (j := 1) (u := .int .i64 0) hbx1.h1 rfl
  have r2 := cell_of_heap (j := 2) (u := nilS) hbx1.h1 rfl
  have r3 := cell_of_heap (j := 3) (u := .bool false) hbx1.h1 rfl
  have f0 := frozen_of_heap (j := 0) hbx1.h1
  have f1 := frozen_of_heap (j := 1) hbx1.h1
  have f2 := frozen_of_heap (j := 2) hbx1.h1
  have f3 := frozen_of_heap (j := 3) hbx1.h1
  clear hb1 hbx1 HBX HKK
  rcases HKQ.out with rfl | rfl | rfl
  · obtain ⟨iE, hiE, zE0, zE1, zE2⟩ := info_parts info_requ
    obtain ⟨iU, hiU, zU0, zU1, zU2⟩ := info_parts info_u64
    obtain ⟨iB, hiB, zB0, zB1, zB2⟩ := info_parts info_u8
    have hlt1 : w.heap.size + 1 < w1.heap.size := by omega
    have hlt0 : w.heap.size < w1.heap.size := by omega
    have HE1 := Lib.hid (HE.out.mono HB1.out)
    have HR1 := Lib.hid (HR0.out.mono HB1.out)
    have HS1 := Lib.hid (HS0.out.mono HB1.out)
    have hb1a : Below w1.heap.size w1 (w1.alloc (.cells #[] 86)) := (Below.refl _ _).alloc (Nat.le_refl _) _
    have HB1A := Lib.hid hb1a
    have HO1 := Lib.hid (World.ownsRow_made (base := w1.heap.size) (e := 86) (size := 2) w1 #[] 0 (Nat.le_refl _) (by decide) rfl)
    clear hb1a r0 r1 r2 r3 f0 f1 f2 f3 g0 g1 g2 g3
    go_wp2_with (first
      | (at_builtin; refine wpList_append_eqs _ rfl (.tmp 33) (.tmp 35) 34 rfl w1.heap.size iE _ 48 Tryd.underlying34 hiE zE0 zE1 zE2 rfl _ rfl HO1.out _ L rfl A 0 (HOO.out.mono (HB1.out.trans (HB1A.out.mono (by omega)))) (by unfold maxLen; omega) (by omega) (by simp) ?_; intro v2 w2 ho2 hg2; have hb2 := (HB1A.out.grown hg2 (by simp) (fun k hk => (HO1.out.lt k hk).1)); have HB2 := Lib.hid hb2; have HO2 := Lib.hid ho2; obtain ⟨x2, xc2, rfl, -, -, -⟩ := ho2.at; clear hb2 ho2 hg2)
      | (at_builtin; refine wpList_append_of (f := wordV) _ rfl (.tmp 38) (.tmp 39) 38 rfl w1.heap.size 47 iU (.int .u64 0) 8 Tryd.underlying38 hiU zU0 zU1 zU2 rfl _ 0 [] rfl (made_own _ HB2.out.size (by decide)) _ row rfl (HR1.out.mono (HB2.out.alloc HB2.out.size _)) (fun y _ => rfl) (by unfold maxLen; have := HRL.out; omega) (by have := HRL.out; omega) (by have := HB2.out.size; simp; omega) ?_; intro v3 w3 ho3 hg3; have HB3 := Lib.hid (made_below HB2.out HB2.out.size hg3); rw [Nat.zero_add, List.nil_append] at ho3; have HO3 := Lib.hid (ElA.own (A := A) ho3 (fun g hg => HAA.out g (by omega))); have HO23 := Lib.hid (HO2.out.mono (made_below (Below.refl w2.heap.size w2) (Nat.le_refl _) hg3)); obtain ⟨x3, xc3, rfl, -, -⟩ := own_open ho3; clear ho3 hg3)
      | (at_builtin; refine wpList_append_of (f := byteV) _ rfl (.tmp 41) (.tmp 42) 39 rfl w1.heap.size 5 iB (.int .u8 0) 1 Tryd.underlying39 hiB zB0 zB1 zB2 rfl _ 0 [] rfl (made_own _ HB3.out.size (by decide)) _ sym rfl (HS1.out.mono (HB3.out.alloc HB3.out.size _)) (fun y _ => rfl) (by unfold maxLen; have := HSL.out; omega) (by have := HSL.out; omega) (by have := HB3.out.size; simp; omega) ?_; intro v4 w4 ho4 hg4; have HB4 := Lib.hid (made_below HB3.out HB3.out.size hg4); rw [Nat.zero_add, List.nil_append] at ho4; have HO4 := Lib.hid (ElA.own (A := A) ho4 (fun g hg => HAA.out g (by omega))); have hb34 := made_below (Below.refl w3.heap.size w3) (Nat.le_refl _) hg4; have HO24 := Lib.hid (HO23.out.mono hb34); have HO34 := Lib.hid (HO3.out.mono hb34); obtain ⟨x4, xc4, rfl, -, -⟩ := own_open ho4; clear ho4 hg4 hb34)
      | (at_builtin; obtain ⟨cs, hcs, hel⟩ := HO24.out; refine wpList_append_own _ rfl (.tmp 37) (.tmp 45) 34 rfl w1.heap.size 86 iE _ 2 48 Tryd.underlying34 hiE zE0 zE1 zE2 rfl (by decide) _ L.length cs rfl (hcs.alloc _) ⟨w4.heap.size, 0, none⟩ 1 1 [.slice x3 row.length xc3, .slice x4 sym.length xc4] rfl rfl (World.news_of_block (heap_alloc_new w4 _)) (fun x hx => by simp at hx; rcases hx with rfl | rfl <;> rfl) (by unfold maxLen; omega) (by omega) (by have := HB4.out.size; simp; omega) ?_; intro v5 w5 ho5 hg5 _; have HB5 := Lib.hid ((HB4.out.alloc HB4.out.size _).grown hg5 (by have := HB4.out.size; simp; omega) (fun k hk => (hcs.lt k hk).1)); have hE5 := EqsOwn.app (q := (row, sym)) hcs hel HO34.out HO4.out ho5 hg5; have HE5 := Lib.hid hE5; obtain ⟨x5, xc5, rfl, -, -, -⟩ := hE5.at; clear hE5; clear ho5 hg5 hcs hel; have hbx5 := HBX1.out.mono HB5.out; have HBX5 := Lib.hid hbx5; have d0 := cell_of_heap (j := 0) (u := .int .i64 n) hbx5.h0 rfl; have d1 := cell_of_heap (j := 1) (u := .int .i64 size) hbx5.h0 rfl; have d2 := cell_of_heap (j := 2) (u := .slice ad L.length cap) hbx5.h0 rfl; have d3 := cell_of_heap (j := 3) (u := .bool false) hbx5.h0 rfl; have e2 := frozen_of_heap (j := 2) hbx5.h0; have e3 := frozen_of_heap (j := 3) hbx5.h0; have r0 := cell_of_heap (j := 0) (u := .int .i64 0) hbx5.h1 rfl; have r1 := cell_of_heap (j := 1) (u := .int .i64 0) hbx5.h1 rfl; have r2 := cell_of_heap (j := 2) (u := nilS) hbx5.h1 rfl; have r3 := cell_of_heap (j := 3) (u := .bool false) hbx5.h1 rfl; have f0 := frozen_of_heap (j := 0) hbx5.h1; have f1 := frozen_of_heap (j := 1) hbx5.h1; have f2 := frozen_of_heap (j := 2) hbx5.h1; have f3 := frozen_of_heap (j := 3) hbx5.h1; clear hbx5)
      )
    refine bodyPost_ret (results_row3 rfl _ _ (w.heap.size + 1) 36 _ (0, 0) _ rfl (HBX5.out.done4 _ _ _ _ _ _) Tryd.underlying36 rfl (by kernel_rfl)) rfl ?_
    have HBF := (((((HB5.out.mono (show w.heap.size ≤ w1.heap.size by omega)).setCell (p := ⟨w.heap.size, 2, none⟩) (Nat.le_refl _) (.slice x5 (L.length + 1) xc5)).setCell (p := ⟨w.heap.size, 3, none⟩) (Nat.le_refl _) (.bool false)).setCell (p := ⟨w.heap.size + 1, 0, none⟩) (Nat.le_succ _) (.int .i64 (n : Int))).setCell (p := ⟨w.heap.size + 1, 1, none⟩) (Nat.le_succ _) (.int .i64 (size : Int))).setCell (p := ⟨w.heap.size + 1, 2, none⟩) (Nat.le_succ _) (.slice x5 (L.length + 1) xc5)
    have HBF2 := HBF.setCell (p := ⟨w.heap.size + 1, 3, none⟩) (Nat.le_succ _) (.bool false)
    refine ⟨.slice x5 (L.length + 1) xc5, rfl, ?_, HB1.out.trans HBF2⟩
    have ht : (36 : TypeId) ≠ 86 ∧ (36 : TypeId) ≠ 47 ∧ (36 : TypeId) ≠ 5 := by decide
    have k0 := heap_setCell_at (j := 2) (u := .slice x5 (L.length + 1) xc5) HBX5.out.h0
    have k1 := (Below.heap_setCell (w5.setCell ⟨w.heap.size, 2, none⟩ (.slice x5 (L.length + 1) xc5)) ⟨w.heap.size, 3, none⟩ (.bool false) (w.heap.size + 1) (by simp)).trans ((Below.heap_setCell w5 ⟨w.heap.size, 2, none⟩ (.slice x5 (L.length + 1) xc5) (w.heap.size + 1) (by simp)).trans HBX5.out.h1)
    have k2 := heap_setCell_at (j := 0) (u := .int .i64 n) k1
    have k3 := heap_setCell_at (j := 1) (u := .int .i64 size) k2
    have k4 := heap_setCell_at (j := 2) (u := .slice x5 (L.length + 1) xc5) k3
    have hF := ((((((HE5.out.set HBX5.out.h0 ht).set k0 ht).set k1 ht).set k2 ht).set k3 ht).set k4 ht (j := 3) (u := .bool false)).low (Nat.zero_le _)
    rw [show (L ++ [(row, sym)]).length = L.length + 1 by simp] at hF
    exact hF
  · go_wp2
    refine bodyPost_ret (results_row3 rfl _ _ (w.heap.size + 1) 36 _ (0, 0) _ rfl (HBX1.out.done3 _ _ _ _ _) Tryd.underlying36 rfl (by kernel_rfl)) rfl ?_
    have HBF := ((((HB1.out.setCell (p := ⟨w.heap.size, 3, none⟩) (Nat.le_refl _) (.bool false)).setCell (p := ⟨w.heap.size + 1, 0, none⟩) (Nat.le_succ _) (.int .i64 (n : Int))).setCell (p := ⟨w.heap.size + 1, 1, none⟩) (Nat.le_succ _) (.int .i64 (size : Int))).setCell (p := ⟨w.heap.size + 1, 2, none⟩) (Nat.le_succ _) (.slice ad L.length cap)).setCell (p := ⟨w.heap.size + 1, 3, none⟩) (Nat.le_succ _) (.bool false)
    exact ⟨_, rfl, HOO.out.mono HBF, HBF⟩
  · go_wp2
    refine bodyPost_ret (results_row3 rfl _ _ (w.heap.size + 1) 36 _ (0, 0) _ rfl (HBX1.out.done3 _ _ _ _ _) Tryd.underlying36 rfl (by kernel_rfl)) rfl ?_
    have HBF := ((((HB1.out.setCell (p := ⟨w.heap.size, 3, none⟩) (Nat.le_refl _) (.bool true)).setCell (p := ⟨w.heap.size + 1, 0, none⟩) (Nat.le_succ _) (.int .i64 (n : Int))).setCell (p := ⟨w.heap.size + 1, 1, none⟩) (Nat.le_succ _) (.int .i64 (size : Int))).setCell (p := ⟨w.heap.size + 1, 2, none⟩) (Nat.le_succ _) (.slice ad L.length cap)).setCell (p := ⟨w.heap.size + 1, 3, none⟩) (Nat.le_succ _) (.bool true)
    exact ⟨_, rfl, HOO.out.mono HBF, HBF⟩
end Go.Proofs.YtnkkaggepokjeaaDoor
end

section
/- The fifth layer's laws: told. -/
namespace Go.Proofs.YtnkkaggepokjeaaDoor
open Go.RowKit Go.Extern.Stop Go.Stop Go.Extern

theorem elWhole_dr {w : World} (b n r : Nat) (cl : Bool) (h0 : w.cell? ⟨b, 0, none⟩ = some (.int .i64 (n : Int))) (h3 : w.cell? ⟨b, 3, none⟩ = some (.int .i64 (r : Int))) (h4 : w.cell? ⟨b, 4, none⟩ = some (.bool cl)) :
    Calls Tryd.prog 24 #[sysP b] w fun e w' => e = .returned (.bool (!cl && decide (r = n))) ∧ ∃ m, w' = w.drewN m := by
  have HCall : Hid (∀ nd, Calls Tryd.prog 33 #[sysP b] (w.drewN nd) fun e w' => e = .returned (.bool cl) ∧ w' = w.drewN nd) := Lib.hid fun nd => (over_any b cl (((below_drawn nd).cell (p := ⟨b, 4, none⟩) (World.block_lt_of_cell? w _ h4)).trans h4)).mono (by rintro e w' ⟨rfl, rfl⟩; exact ⟨rfl, rfl⟩)
  have he : ((r : Int) == (n : Int)) = decide (r = n) := by
    by_cases e : r = n
    · simp [e]
    · rw [decide_eq_false e]; simp; omega
  have HE := Lib.hid he
  cases cl with
  | true =>
    clear he
    go_enter Tryd.func24, Tryd.ntmps24
    go_wp2_with fail
    go_quiet (exact Calls.quiet_of_same (HCall.out _))
    go_wp2
    go_ret
    exact ⟨rfl, _, rfl⟩
  | false =>
    generalize decide (r = n) = D at *
    go_enter Tryd.func24, Tryd.ntmps24
    go_wp2_with fail
    go_quiet (exact Calls.quiet_of_same (HCall.out _))
    go_wp2
    go_ret
    exact ⟨by simp, _, rfl⟩

set_option maxRecDepth 1000000 in
set_option maxHeartbeats 8000000 in
theorem told5 {w : World} (b kb n size : Nat) (L : List Eqn) (cl : Bool) (v : Value) (hP : PlayS w b kb n size L cl v) (hT : Tab w) (hG : Laid w) :
    Calls Tryd.prog 19 #[sysP b, sysV n size v cl] w fun e w' => e = .returned (.bool true) ∧ Below w.heap.size w w' := by
  have HP := Lib.hid hP
  have HT := Lib.hid hT
  have HG := Lib.hid hG
  have hn12 := hP.low.1
  have hE := hP.eqs.at
  obtain ⟨ad, cap, rfl, hcap, hcm, -⟩ := hE
  obtain ⟨w0, hw0, hb0, hs0, hsc⟩ := sys_laid w n size (.slice ad L.length cap) cl
  have HB0 := Lib.hid hb0
  have HSC := Lib.hid hsc
  have HW0 := Lib.hid hw0
  have hs0' := HSC.out.1
  have hs1' := HSC.out.2.1
  have hs2' := HSC.out.2.2.1
  have hs3' := HSC.out.2.2.2
  have HP0 := Lib.hid (hP.mono hb0)
  have HRK : Hid (∀ nd, Calls Tryd.prog 17 #[sysP b] (w0.drewN nd) fun e w' => e = .returned (.int .i64 (L.length : Int)) ∧ w' = w0.drewN nd) := Lib.hid fun nd => (Rank_any b L.length (HP0.out.mono (below_drawn nd)).sys.cells.2.2.2.1).mono (by rintro e w' ⟨rfl, rfl⟩; exact ⟨rfl, rfl⟩)
  have HCL : Hid (∀ nd, Calls Tryd.prog 26 #[sysP b] (w0.drewN nd) fun e w' => e = .returned (.bool cl) ∧ w' = w0.drewN nd) := Lib.hid fun nd => (Clashed_any b cl (HP0.out.mono (below_drawn nd)).sys.cells.2.2.2.2).mono (by rintro e w' ⟨rfl, rfl⟩; exact ⟨rfl, rfl⟩)
  have HWH : Hid (∀ nd, Calls Tryd.prog 24 #[sysP b] (w0.drewN nd) fun e w' => e = .returned (.bool (!cl && decide (L.length = n))) ∧ ∃ m, w' = (w0.drewN nd).drewN m) := Lib.hid fun nd => by
    obtain ⟨c0, -, -, c3, c4⟩ := (HP0.out.mono (below_drawn nd)).sys.cells
    exact elWhole_dr b n L.length cl c0 c3 c4
  have he : ((L.length : Int) == (n : Int)) = decide (L.length = n) := by
    by_cases e : L.length = n
    · simp [e]
    · rw [decide_eq_false e]; simp; omega
  generalize decide (L.length = n) = D at he HWH
  obtain ⟨W, hW⟩ : ∃ W : Bool, W = (!cl && D) := ⟨_, rfl⟩
  rw [← hW] at HWH
  obtain ⟨kA, VA, hsA⟩ := allSays_some hP
  have HSA := Lib.hid hsA
  have HVA := Lib.hid (valSays_some n size L cl)
  clear hsc hb0 hw0 hP hT hG hsA
  unfold sysV
  cases cl <;> cases D
  all_goals
    simp only [Bool.not_true, Bool.not_false, Bool.false_and, Bool.true_and] at hW
    subst hW
    go_enter Tryd.func19, Tryd.ntmps19
    go_wp2_with fail
    rw [← HW0.out]
    go_quiet (first | exact Calls.quiet_of_same (HRK.out _) | exact Calls.quiet_of_same (HCL.out _) | exact Calls.quiet_of (HWH.out _))
    go_wp2_with fail
    clear hs0' hs1' hs2' hs3' HRK HCL HWH he
    go_loopw [5] (fun c wq => ∃ cI : Int, -1 ≤ cI ∧ cI ≤ (n : Int) + 1 ∧ c = .int .i64 cI ∧ Below w0.heap.size w0 wq) (fun c _ => ((n : Int) + 1 - intOf c).toNat)
    case atStart => exact ⟨-1, by omega, by omega, rfl, below_draws (Below.refl _ _) _⟩
    case round =>
      obtain ⟨cI, hc1, hc2, rfl, hbel⟩ := hrel
      have HB := Lib.hid hbel
      have hsz := hbel.size
      have hx0 := (HSC.out.mono hbel).1
      by_cases hlt : cI ≤ (n : Int)
      · obtain ⟨kv, l, hs⟩ := HVA.out cI
        have HVS := Lib.hid hs
        have HPR := Lib.hid (HP0.out.mono hbel)
        have HTR := Lib.hid (HT.out.mono (HB0.out.trans (hbel.mono (by omega))))
        clear hbel hs
        go_wp2_with fail
        refine (elVal_says HPR.out HTR.out HVS.out).mono ?_
        rintro e w4 ⟨v4, E4, rfl, hl4, he4, hb4⟩
        have HB4 := Lib.hid (HB.out.trans (hb4.mono hsz))
        have HP4 := Lib.hid (HPR.out.mono hb4)
        have HL4 := Lib.hid hl4
        have HE4 := Lib.hid he4
        obtain ⟨a4, c4, rfl, -, -, -⟩ := hl4
        obtain ⟨y0, y1, y2, y3⟩ := HSC.out.mono HB4.out
        clear hb4 he4 hx0 HPR HTR
        go_wp2_with fail
        clear y0 y1 y2 y3
        have hr5 := refVal_says HP4.out HVS.out
        unfold sysV at hr5
        refine hr5.mono ?_
        clear hr5
        rintro e w5 ⟨v5, rfl, hl5, hb5⟩
        have hsz4 := HB4.out.size
        have HB5 := Lib.hid (HB4.out.trans (hb5.mono hsz4))
        have HE5 := Lib.hid (HE4.out.mono hb5)
        have hst4 : (convert 39 9 (.slice a4 l.length c4)).run Tryd.prog w5 = .ok (.string (strN l)) w5 := (HL4.out.mono hb5).str
        have hst5 : (convert 39 9 v5).run Tryd.prog w5 = .ok (.string (strN l)) w5 := hl5.str
        obtain ⟨a5, c5, rfl, -, -, -⟩ := hl5
        have HG5 := Lib.hid (HG.out.mono (HB0.out.trans (HB5.out.mono (by omega))))
        clear hb5 HL4 HE4 HB4 HP4 HVS
        generalize strN l = str at *
        generalize l.length = sl at *
        go_wp2_with fail
        refine (tells_ans kv nameElValue E4 HE5.out HG5.out).mono ?_
        rintro e w6 ⟨rfl, hb6⟩
        have HB6 := Lib.hid (HB5.out.trans (hb6.mono HB5.out.size))
        clear hb6
        go_wp2
        go_roundw
        case rel => exact ⟨cI + 1, by omega, by omega, by go_num, HB6.out⟩
        case measure => simp [intOf]; omega
      · have hce : cI = (n : Int) + 1 := by omega
        subst hce
        have HPR := Lib.hid (HP0.out.mono hbel)
        clear hbel hlt
        go_wp2_with fail
        clear hx0
        refine (elAll_says HPR.out HSA.out).mono ?_
        rintro e w4 ⟨v4, E4, rfl, hm4, he4, hb4⟩
        have HB4 := Lib.hid (HB.out.trans (hb4.mono hsz))
        have HP4 := Lib.hid (HPR.out.mono hb4)
        have HM4 := Lib.hid hm4
        have HE4 := Lib.hid he4
        obtain ⟨a4, c4, rfl, -, -, -⟩ := hm4.opens
        obtain ⟨y0, y1, y2, y3⟩ := HSC.out.mono HB4.out
        clear hb4 he4 HPR hm4
        go_wp2_with fail
        clear y0 y1 y2 y3
        have hr5 := refAll_says HP4.out HSA.out
        unfold sysV at hr5
        refine hr5.mono ?_
        clear hr5
        rintro e w5 ⟨v5, rfl, hm5, hb5⟩
        have hsz4 := HB4.out.size
        have HB5 := Lib.hid (HB4.out.trans (hb5.mono hsz4))
        have HE5 := Lib.hid (HE4.out.mono hb5)
        have HM5 := Lib.hid (HM4.out.mono hb5)
        have HN5 := Lib.hid hm5
        obtain ⟨a5, c5, rfl, -, -, -⟩ := hm5.opens
        clear hb5 HM4 HE4 HB4 HP4 hm5
        go_wp2_with fail
        refine (sSame_any _ _ VA HM5.out HN5.out).mono ?_
        rintro e w6 ⟨rfl, hb6⟩
        have HB6 := Lib.hid (HB5.out.trans (hb6.mono HB5.out.size))
        have HE6 := Lib.hid (HE5.out.mono hb6)
        have HG6 := Lib.hid (HG.out.mono (HB0.out.trans (HB6.out.mono (by omega))))
        clear hb6
        go_wp2_with fail
        refine (tells_ans kA nameElAll E4 HE6.out HG6.out).mono ?_
        rintro e w7 ⟨rfl, hb7⟩
        have HB7 := Lib.hid (HB6.out.trans (hb7.mono HB6.out.size))
        clear hb7
        go_wp2
        go_ret
        exact ⟨rfl, HB0.out.trans (HB7.out.mono (by omega))⟩
end Go.Proofs.YtnkkaggepokjeaaDoor
end

section
/- Package elim: (*System).Add, of an equation of the system's: where the kept rows lie behind it. -/
namespace Go.Proofs.YtnkkaggepokjeaaDoor
open Go.RowKit Go.Extern.Stop Go.Stop Go.Extern

/-- Rows lie where they lay, or in memory that is new. -/
def RowsFar (B : Nat) (rv sv rv' sv' : Nat → Value) : Prop := ∀ c g, ((rv' c).ownBlock = some g ∨ (sv' c).ownBlock = some g) → ((rv c).ownBlock = some g ∨ (sv c).ownBlock = some g) ∨ B ≤ g
theorem RowsFar.same (B : Nat) (rv sv : Nat → Value) : RowsFar B rv sv rv sv := fun _ _ h => .inl h

def ElFarPost (w w' : World) (b kb n size : Nat) (f : Nat → Option Eqn) (rv sv : Nat → Value) (l : Vec) (k : Nat) : Prop :=
  Touch b kb w w' ∧ k = kindV n (stL (uF f n) n) l ∧ ∃ f' rv' sv', SysM w' b kb n size f' rv' sv' (decide (k = 3)) ∧ (k = 1 → SpEq (stL (uF f' n) n) (stL (uF f n) n ++ [l]) ∧ cntF f' n = cntF f n + 1) ∧ (k ≠ 1 → f' = f) ∧ RowsFar w.heap.size rv sv rv' sv'

set_option maxRecDepth 1000000 in
set_option maxHeartbeats 4000000 in
theorem elAdd_far {w : World} (b kb n size : Nat) (f : Nat → Option Eqn) (rv sv : Nat → Value) (v1 v2 : Value) (row sym : List Nat) (hS : SysM w b kb n size f rv sv false) (hT : Tab w)
    (h1 : ListAt wordV w v1 row) (h2 : ListAt byteV w v2 sym) (hok : EqOk n size (row, sym)) :
    Calls Tryd.prog 16 #[sysP b, v1, v2] w fun e w' => ∃ k : Nat, e = .returned (.tuple #[.int .i64 (k : Int), .nilIface]) ∧ ElFarPost w w' b kb n size f rv sv (longV row sym n) k := by
  obtain ⟨hn1, hn2, hs1, hs2⟩ := hS.num
  have hK64 : kOf n ≤ 64 := kOf_le hn2
  have hKp : 0 < kOf n := by unfold kOf; omega
  obtain ⟨hc0, hc1, hc2, hc3, hc4⟩ := hS.cells
  have hne := hS.ne
  have HS := Lib.hid hS
  have HT := Lib.hid hT
  have HOK := Lib.hid hok
  have HR := Lib.hid h1
  have HSY := Lib.hid h2
  have HWB : Hid (wholeB n row = true) := Lib.hid (wholeB_iff.2 ⟨hok.1, hok.2.2.1⟩)
  have hsl : sym.length = size := hok.2.2.2.1
  have HSL := Lib.hid hsl
  have HRL : Hid (row.length = kOf n) := Lib.hid hok.1
  have HC4 := Lib.hid hc4
  have HCN := Lib.hid (cntF_le f n)
  obtain ⟨a1, cp1, rfl, -, -, -⟩ := h1
  obtain ⟨a2, cp2, rfl, -, -, -⟩ := h2
  have hq : ((sym.length : Int) != (size : Int)) = false := by simp; omega
  have hq2 : ((sym.length : Int) == (size : Int)) = true := by simp; omega
  clear hS hT hok hsl
  go_enter Tryd.func16, Tryd.ntmps16
  go_wp2_with fail
  refine (over_any b false HC4.out).mono ?_
  rintro e w1 ⟨rfl, rfl⟩
  go_wp2_with fail
  refine (eformed_any _ row n HR.out HOK.out.2.1 hn2).mono ?_
  rintro e w1 ⟨rfl, rfl⟩
  rw [HWB.out]
  go_wp2_with fail
  refine (eqClone_any _ _ row sym HR.out HSY.out (by rw [HRL.out]; omega) (by rw [HSL.out]; omega)).mono ?_
  rintro e w1 ⟨p1, p2, rfl, ho1, ho2, -, -, hb1⟩
  rw [HRL.out] at ho1
  rw [HSL.out] at ho2
  have HO1 := Lib.hid ho1
  have HO2 := Lib.hid ho2
  have HB1 := Lib.hid hb1
  obtain ⟨g1, cg1, rfl⟩ := own_nonnil ho1 hKp
  obtain ⟨g2, cg2, rfl⟩ := own_nonnil ho2 (by omega)
  clear ho1 ho2 hb1
  go_wp2_with fail
  obtain ⟨wz, hwz⟩ : ∃ wz, wz = w1.alloc (.cells #[.slice (some ⟨g1, 0, none⟩) (kOf n) cg1, .slice (some ⟨g2, 0, none⟩) size cg2] 82) := ⟨_, rfl⟩
  rw [← hwz]
  have hbz : Below w1.heap.size w1 wz := by rw [hwz]; exact (Below.refl _ _).alloc (Nat.le_refl _) _
  have hzz : wz.heap[w1.heap.size]? = some (.cells #[.slice (some ⟨g1, 0, none⟩) (kOf n) cg1, .slice (some ⟨g2, 0, none⟩) size cg2] 82 (0, 0)) := by rw [hwz]; exact heap_alloc_new w1 _
  have hzs : w1.heap.size < wz.heap.size := (Array.getElem?_eq_some_iff.1 hzz).1
  have HZZ := Lib.hid hzz
  have HG1 := Lib.hid (HO1.out.lt g1 rfl).1
  have HG2 := Lib.hid (HO2.out.lt g2 rfl).1
  have hg1 := (HO1.out.lt g1 rfl).2
  have hg2 := (HO2.out.lt g2 rfl).2
  refine (down_any (w0 := w) (w := wz) b kb n size f rv sv false g1 cg1 g2 cg2 row sym HS.out HT.out (HB1.out.trans (hbz.mono HB1.out.size)) (owns_kept HO1.out hbz) (owns_kept HO2.out hbz) HOK.out).mono ?_
  rintro e w4 ⟨x, y, hd, hp1, hp2, hb4, hfr, hres⟩
  have hX := hfr w1.heap.size hzs (by omega) (by omega)
  have hX0 : w4.cell? ⟨w1.heap.size, 0, none⟩ = some (.slice (some ⟨g1, 0, none⟩) (kOf n) cg1) := cell_of_heap (hX.trans HZZ.out) rfl
  have hX1 : w4.cell? ⟨w1.heap.size, 1, none⟩ = some (.slice (some ⟨g2, 0, none⟩) size cg2) := cell_of_heap (hX.trans HZZ.out) rfl
  have HS4 := Lib.hid (HS.out.mono hb4)
  have HD := Lib.hid hd
  have HP1 := Lib.hid hp1
  have HP2 := Lib.hid hp2
  have HB4 := Lib.hid hb4
  have HST := Lib.hid HS.out.stair
  clear hwz hbz hzz hfr hX hp1 hp2 hb4 hd hg1 hg2 hzs HZZ HOK
  rcases hres with ⟨rfl, hz⟩ | ⟨c, rfl, hcn, hfc, hld⟩
  · cases hzb : zeroB y with
    | true =>
      have HZB := Lib.hid hzb
      have HZ := Lib.hid hz
      clear hzb hz
      go_wp2_with fail
      refine (Zero_any _ y (ListAt.of_owns HP2.out)).mono ?_
      rintro e w5 ⟨rfl, rfl⟩
      rw [HZB.out]
      go_wp2
      go_ret2
      have hy0 : ∀ j, y.getD j 0 = 0 := fun j => by
        by_cases hj : j < y.length
        · have := List.all_eq_true.1 HZB.out _ (List.getElem_mem hj)
          rw [List.getD_eq_getElem?_getD, List.getElem?_eq_getElem hj]
          simpa using this
        · simp [List.getD_eq_getElem?_getD, Nat.not_lt.1 hj]
      have hsp := HD.out.span
      rw [longV_zero HZ.out hy0, vadd_comm, vadd_zero] at hsp
      exact ⟨2, rfl, Touch.of HB4.out, (kindV_known hsp).symm, f, rv, sv, HS4.out, fun h => absurd h (by decide), fun _ => rfl, RowsFar.same _ _ _⟩
    | false =>
      have HZB := Lib.hid hzb
      have HZ := Lib.hid hz
      have hf4 := frozen_of_heap (j := 4) HS4.out.obj
      have hc4' := HS4.out.cells.2.2.2.2
      clear hzb hz
      go_wp2_with fail
      refine (Zero_any _ y (ListAt.of_owns HP2.out)).mono ?_
      rintro e w5 ⟨rfl, rfl⟩
      rw [HZB.out]
      go_wp2
      go_ret2
      have hy0 : ∃ j, y.getD j 0 ≠ 0 := by
        apply Classical.byContradiction
        intro hno
        have : zeroB y = true := by
          unfold zeroB
          rw [List.all_eq_true]
          intro z hz
          obtain ⟨j, hj, rfl⟩ := List.getElem_of_mem hz
          have h1 : ¬ y.getD j 0 ≠ 0 := fun h => hno ⟨j, h⟩
          rw [List.getD_eq_getElem?_getD, List.getElem?_eq_getElem hj] at h1
          simpa using h1
        rw [this] at HZB
        exact Bool.noConfusion HZB.out
      obtain ⟨j, hj⟩ := hy0
      have hk3 : kindV n (stL (uF f n) n) (longV row sym n) = 3 := kindV_clash HST.out HD.out.span (fun c hc => by rw [longV_row hc, HZ.out]; rfl) (longV_ne HD.out.ok.2.2.2.2 hj)
      exact ⟨3, rfl, (Touch.of HB4.out).setCell (p := ⟨b, 4, none⟩) (.inl rfl) _, hk3.symm, f, rv, sv, HS4.out.clash, fun h => absurd h (by decide), fun _ => rfl, RowsFar.same _ _ _⟩
  · obtain ⟨hc0, hc1, hc2, hc3, hc4⟩ := HS4.out.cells
    obtain ⟨hk0, hk1⟩ := HS4.out.kcell c hcn
    obtain ⟨cur, hkob⟩ := HS4.out.kobj
    have hf0 := frozen_of_heap (j := c * 2) hkob
    have hf1 := frozen_of_heap (j := c * 2 + 1) hkob
    have hf3 := frozen_of_heap (j := 3) HS4.out.obj
    have HFC := Lib.hid hfc
    have HLD := Lib.hid hld
    have hcI : (c : Int) < (n : Int) := by omega
    have hcI0 : (0 : Int) ≤ (c : Int) := by omega
    have hcnt := HCN.out
    clear hkob hfc hld
    generalize hcq : cntF f n = cq at *
    have hwr : IntKind.i64.wrap ((cq : Int) + 1) = (cq : Int) + 1 := IntWalk.i64_in _ (by omega)
    go_wp2_with fail
    go_region
    go_wp2
    go_ret2
    have hk1 : kindV n (stL (uF f n) n) (longV row sym n) = 1 := kindV_fresh HST.out HD.out.span hcn (uF_none HFC.out) (longV_lead hcn HLD.out)
    have hput := HS4.out.put (q := (x, y)) hcn HFC.out (ownsRow_base HP1.out (Nat.zero_le _)) (ownsRow_base HP2.out (Nat.zero_le _)) HD.out.ok HLD.out
    rw [hcq] at hput
    refine ⟨1, rfl, ?_, hk1.symm, putF f c (x, y), updV rv c (.slice (some ⟨g1, 0, none⟩) (kOf n) cg1), updV sv c (.slice (some ⟨g2, 0, none⟩) size cg2), ?_, fun _ => ⟨?_, ?_⟩, fun h => absurd rfl h, fun d g hd => ?_⟩
    · exact (((Touch.of HB4.out).setCell (p := ⟨kb, c * 2, none⟩) (.inr rfl) _).setCell (p := ⟨kb, c * 2 + 1, none⟩) (.inr rfl) _).drew.setCell (p := ⟨b, 3, none⟩) (.inl rfl) _
    · exact hput.mono (Below.refl _ _).drew
    · rw [uF_put]
      exact stair_snoc HD.out.span hcn (uF_none HFC.out)
    · rw [cntF_put HFC.out hcn, hcq]
    · unfold updV at hd
      by_cases e : d = c
      · rw [if_pos e, if_pos e] at hd
        rcases hd with hd | hd
        · have : g1 = g := by simpa [Value.ownBlock] using hd
          rw [← this]; exact .inr HG1.out
        · have : g2 = g := by simpa [Value.ownBlock] using hd
          rw [← this]; exact .inr HG2.out
      · rw [if_neg e, if_neg e] at hd
        exact .inl hd

/-- A system, its rows in blocks that A names. -/
def SysA (A : Nat → Prop) (w : World) (b n size : Nat) (K : List Vec) (r : Nat) (cl : Bool) (kb : Nat) : Prop :=
  ∃ f rv sv, SysM w b kb n size f rv sv cl ∧ SpEq (stL (uF f n) n) K ∧ cntF f n = r ∧ ∀ c, c < n → ∀ g, ((rv c).ownBlock = some g ∨ (sv c).ownBlock = some g) → A g
section
variable {A A' : Nat → Prop} {w w' : World} {b kb n size r : Nat} {K : List Vec} {cl : Bool}
theorem SysA.sys (h : SysA A w b n size K r cl kb) : Sys w b n size K r cl kb := by
  obtain ⟨f, rv, sv, h1, h2, h3, -⟩ := h
  exact ⟨f, rv, sv, h1, h2, h3⟩
theorem own_block {e : TypeId} {base k : Nat} {v : Value} {xs : List Value} (h : w.ownsRow base e 1 v k xs) {g : Nat} (hg : v.ownBlock = some g) : base ≤ g ∧ ∃ cur, w.heap[g]? = some (.cells cur e (0, 0)) := by
  rcases h.2 with ⟨rfl, _⟩ | ⟨g', cap, cur, rfl, hb, hh, _⟩
  · simp [Value.ownBlock] at hg
  · obtain rfl : g' = g := by simpa [Value.ownBlock] using hg
    exact ⟨hb, cur, hh⟩
theorem SysM.rowlt {f : Nat → Option Eqn} {rv sv : Nat → Value} (h : SysM w b kb n size f rv sv cl) {c g : Nat} (hc : c < n) (hg : (rv c).ownBlock = some g ∨ (sv c).ownBlock = some g) : g < w.heap.size := by
  have hp := h.place c hc
  cases hf : f c with
  | none =>
    rw [hf] at hp
    rw [hp.1, hp.2] at hg
    rcases hg with hg | hg <;> simp [Value.ownBlock] at hg
  | some q =>
    rw [hf] at hp
    rcases hg with hg | hg
    · obtain ⟨-, cur, hh⟩ := own_block hp.1 hg
      exact (Array.getElem?_eq_some_iff.1 hh).1
    · obtain ⟨-, cur, hh⟩ := own_block hp.2.1 hg
      exact (Array.getElem?_eq_some_iff.1 hh).1
theorem Sys.here (h : Sys w b n size K r cl kb) (hA : ∀ g, g < w.heap.size → A g) : SysA A w b n size K r cl kb := by
  obtain ⟨f, rv, sv, h1, h2, h3⟩ := h
  exact ⟨f, rv, sv, h1, h2, h3, fun c hc g hg => hA g (h1.rowlt hc hg)⟩
theorem own_keep {e : TypeId} {v : Value} {k base : Nat} {xs : List Value} (h : w.ownsRow base e 1 v k xs) (hs : ∀ g, v.ownBlock = some g → g < w.heap.size → w'.heap[g]? = w.heap[g]?) : w'.ownsRow base e 1 v k xs := by
  refine ⟨h.1, ?_⟩
  rcases h.2 with h1 | ⟨g, cap, cur, h1, h2, h3, h4⟩
  · exact .inl h1
  · exact .inr ⟨g, cap, cur, h1, h2, by rw [hs g (by rw [h1]; rfl) (Array.getElem?_eq_some_iff.1 h3).1]; exact h3, h4⟩
/-- Nothing has turned that A names. -/
theorem SysA.keep (h : SysA A w b n size K r cl kb) (hb : w'.heap[b]? = w.heap[b]?) (hk : w'.heap[kb]? = w.heap[kb]?) (hs : ∀ g, A g → g < w.heap.size → w'.heap[g]? = w.heap[g]?) : SysA A w' b n size K r cl kb := by
  obtain ⟨f, rv, sv, h1, h2, h3, h4⟩ := h
  refine ⟨f, rv, sv, ⟨by rw [hb]; exact h1.obj, by rw [hk]; exact h1.kobj, fun c hc => ?_, fun c hc => ?_, h1.num⟩, h2, h3, h4⟩
  · obtain ⟨g1, g2⟩ := h1.kcell c hc
    exact ⟨(World.cell?_of_block (w := w) (a := ⟨kb, c * 2, none⟩) hk).trans g1, (World.cell?_of_block (w := w) (a := ⟨kb, c * 2 + 1, none⟩) hk).trans g2⟩
  · have hp := h1.place c hc
    cases hf : f c with
    | none => rw [hf] at hp; exact hp
    | some q =>
      rw [hf] at hp
      exact ⟨own_keep hp.1 fun g hg hl => hs g (h4 c hc g (.inl hg)) hl, own_keep hp.2.1 fun g hg hl => hs g (h4 c hc g (.inr hg)) hl, hp.2.2⟩
/-- Nothing has turned that A names, of the rows' kinds. -/
theorem SysA.keep2 (h : SysA A w b n size K r cl kb) (hb : w'.heap[b]? = w.heap[b]?) (hk : w'.heap[kb]? = w.heap[kb]?) (hs : ∀ (g : Nat) (cur : Array Value) (e : TypeId), e = 47 ∨ e = 5 → A g → w.heap[g]? = some (.cells cur e (0, 0)) → w'.heap[g]? = w.heap[g]?) : SysA A w' b n size K r cl kb := by
  obtain ⟨f, rv, sv, h1, h2, h3, h4⟩ := h
  refine ⟨f, rv, sv, ⟨by rw [hb]; exact h1.obj, by rw [hk]; exact h1.kobj, fun c hc => ?_, fun c hc => ?_, h1.num⟩, h2, h3, h4⟩
  · obtain ⟨g1, g2⟩ := h1.kcell c hc
    exact ⟨(World.cell?_of_block (w := w) (a := ⟨kb, c * 2, none⟩) hk).trans g1, (World.cell?_of_block (w := w) (a := ⟨kb, c * 2 + 1, none⟩) hk).trans g2⟩
  · have hp := h1.place c hc
    cases hf : f c with
    | none => rw [hf] at hp; exact hp
    | some q =>
      rw [hf] at hp
      refine ⟨own_keep hp.1 fun g hg hl => ?_, own_keep hp.2.1 fun g hg hl => ?_, hp.2.2⟩
      · obtain ⟨-, cur, hh⟩ := own_block hp.1 hg
        exact hs g cur _ (.inl rfl) (h4 c hc g (.inl hg)) hh
      · obtain ⟨-, cur, hh⟩ := own_block hp.2.1 hg
        exact hs g cur _ (.inr rfl) (h4 c hc g (.inr hg)) hh
theorem SysA.weaken (h : SysA A w b n size K r cl kb) (hA : ∀ g, A g → A' g) : SysA A' w b n size K r cl kb := by
  obtain ⟨f, rv, sv, h1, h2, h3, h4⟩ := h
  exact ⟨f, rv, sv, h1, h2, h3, fun c hc g hg => hA g (h4 c hc g hg)⟩
/-- A block of another kind than the two that are touched. -/
theorem touch_kind {x kx n2 size2 r2 : Nat} {K2 : List Vec} {cl2 : Bool} (hs : Sys w x n2 size2 K2 r2 cl2 kx) (ht : Touch x kx w w') {g : Nat} {cur : Array Value} {e : TypeId} (he : e ≠ 74 ∧ e ≠ 82) (hg : w.heap[g]? = some (.cells cur e (0, 0))) : w'.heap[g]? = w.heap[g]? := by
  obtain ⟨f, rv, sv, h1, -, -⟩ := hs
  refine ht.block g (Array.getElem?_eq_some_iff.1 hg).1 (fun e1 => ?_) (fun e1 => ?_)
  · have := h1.obj
    rw [← e1, hg] at this
    simp at this
    exact he.1 this.2
  · obtain ⟨cur', hc⟩ := h1.kobj
    rw [← e1, hg] at hc
    simp at hc
    exact he.2 hc.2
/-- Another system is touched. -/
theorem SysA.touch {x kx n2 size2 r2 : Nat} {K2 : List Vec} {cl2 : Bool} (h : SysA A w b n size K r cl kb) (hs : Sys w x n2 size2 K2 r2 cl2 kx) (ht : Touch x kx w w') (hb : b ≠ x) (hk : kb ≠ kx) : SysA A w' b n size K r cl kb := by
  have h' := h.sys
  obtain ⟨f, rv, sv, h1, -, -⟩ := h'
  obtain ⟨f2, rv2, sv2, k1, -, -⟩ := hs
  have e1 : b ≠ kx := fun e => by
    obtain ⟨cur, hc⟩ := k1.kobj
    have := h1.obj
    rw [e, hc] at this
    simp at this
  have e2 : kb ≠ x := fun e => by
    obtain ⟨cur, hc⟩ := h1.kobj
    have := k1.obj
    rw [← e, hc] at this
    simp at this
  exact h.keep2 (ht.block b h1.lt hb e1) (ht.block kb h1.klt e2 hk) fun g cur e he _ hg => touch_kind ⟨f2, rv2, sv2, k1, SpEq.refl _, rfl⟩ ht (by rcases he with rfl | rfl <;> decide) hg
theorem SysA.mono (h : SysA A w b n size K r cl kb) (hb : Below w.heap.size w w') : SysA A w' b n size K r cl kb :=
  h.keep (hb.block _ h.sys.base.1) (hb.block _ h.sys.base.2.1) fun g _ hl => hb.block g hl
theorem SysA.congr {M : List Vec} (h : SysA A w b n size K r cl kb) (e : SpEq K M) : SysA A w b n size M r cl kb := by
  obtain ⟨f, rv, sv, h1, h2, h3, h4⟩ := h
  exact ⟨f, rv, sv, h1, h2.trans e, h3, h4⟩

theorem sysAddA {w : World} (b n size : Nat) (K : List Vec) (r kb : Nat) (v1 v2 : Value) (row sym : List Nat) (hS : SysA A w b n size K r false kb) (hA : ∀ g, w.heap.size ≤ g → A g) (hT : Tab w) (h1 : ListAt wordV w v1 row) (h2 : ListAt byteV w v2 sym) (hok : EqOk n size (row, sym)) :
    Calls Tryd.prog 16 #[sysP b, v1, v2] w fun e w' => e = .returned (.tuple #[.int .i64 (kindV n K (longV row sym n) : Nat), .nilIface]) ∧ Touch b kb w w' ∧
      SysA A w' b n size (if kindV n K (longV row sym n) = 1 then K ++ [longV row sym n] else K) (addR n K (longV row sym n) r) (decide (kindV n K (longV row sym n) = 3)) kb := by
  obtain ⟨f, rv, sv, k1, k2, rfl, k4⟩ := hS
  refine (elAdd_far b kb n size f rv sv v1 v2 row sym k1 hT h1 h2 hok).mono ?_
  rintro e w' ⟨k, rfl, ht, hk, f', rv', sv', m1, m2, m3, m4⟩
  rw [kindV_congr k2] at hk
  refine ⟨by rw [hk], ht, f', rv', sv', by rw [← hk]; exact m1, ?_, ?_, fun c hc g hg => ?_⟩
  · rw [← hk]
    by_cases e1 : k = 1
    · rw [if_pos e1]; exact (m2 e1).1.trans (k2.snoc _)
    · rw [if_neg e1, m3 e1]; exact k2
  · unfold addR
    rw [← hk]
    by_cases e1 : k = 1
    · rw [if_pos e1, (m2 e1).2]
    · rw [if_neg e1, m3 e1]; rfl
  · rcases m4 c g hg with h | h
    · exact k4 c hc g h
    · exact hA g h
end
end Go.Proofs.YtnkkaggepokjeaaDoor
end

section
/- What an equation is told, by the document and by the program. -/
namespace Go.Proofs.YtnkkaggepokjeaaDoor
open Go.RowKit Go.Extern.Stop Go.Stop Go.Extern

/-- A system of the program's and one of the document's, the rows of both in blocks that A names. -/
structure PlayA (A : Nat → Prop) (w : World) (b kb n size : Nat) (L : List Eqn) (cl : Bool) (v : Value) : Prop where
  sys : SysA A w b n size (vecsE L n) L.length cl kb
  eqs : EqsOwn 0 A w v L
  ok : ∀ p ∈ L, EqOk n size p
  low : n ≤ 12 ∧ size ≤ 4
section
variable {A : Nat → Prop} {w w' : World} {b kb n size : Nat} {L : List Eqn} {cl : Bool} {v : Value}
theorem PlayA.play (h : PlayA A w b kb n size L cl v) : PlayS w b kb n size L cl v := ⟨h.sys.sys, h.eqs.weaken fun _ _ _ => trivial, h.ok, h.low⟩
theorem PlayS.here (h : PlayS w b kb n size L cl v) (hA : ∀ g, g < w.heap.size → A g) : PlayA A w b kb n size L cl v := ⟨h.sys.here hA, h.eqs.weaken fun g hg _ => hA g hg, h.ok, h.low⟩

theorem SysA.set {g j : Nat} {t : TypeId} {z : Nat × Nat} {cur : Array Value} {u : Value} {K : List Vec} {r : Nat} (h : SysA A w b n size K r cl kb) (hg : w.heap[g]? = some (.cells cur t z)) (ht : t ≠ 74 ∧ t ≠ 82 ∧ t ≠ 47 ∧ t ≠ 5) : SysA A (w.setCell ⟨g, j, none⟩ u) b n size K r cl kb := by
  have h' := h.sys
  obtain ⟨f, rv, sv, h1, -, -⟩ := h'
  have key : ∀ (x : Nat) (cu : Array Value) (e : TypeId) (z' : Nat × Nat), e ≠ t → w.heap[x]? = some (.cells cu e z') → (w.setCell ⟨g, j, none⟩ u).heap[x]? = w.heap[x]? := fun x cu e z' he hx => Below.heap_setCell _ _ _ _ fun e1 => by
    rw [show x = g from e1, hg] at hx
    cases hx
    exact he rfl
  obtain ⟨cu, hk⟩ := h1.kobj
  exact h.keep2 (key _ _ _ _ ht.1.symm h1.obj) (key _ _ _ _ ht.2.1.symm hk) fun x cu e he _ hx => key x cu e _ (by rcases he with rfl | rfl; exact ht.2.2.1.symm; exact ht.2.2.2.symm) hx
theorem EqsOwn.touch {ob x kx n2 size2 r2 : Nat} {K2 : List Vec} {cl2 : Bool} (h : EqsOwn ob A w v L) (hs : Sys w x n2 size2 K2 r2 cl2 kx) (ht : Touch x kx w w') : EqsOwn ob A w' v L :=
  h.keep (fun g cur hg => touch_kind hs ht (by decide) hg) fun g cur te he _ hg => touch_kind hs ht (by rcases he with rfl | rfl <;> decide) hg

/-- Between two worlds, nothing has turned but words and bytes in the blocks from lo on and below hi. -/
structure Mid (lo hi : Nat) (w w' : World) : Prop where
  os : w'.os = w.os
  tape : w'.tape = w.tape
  output : w'.output = w.output
  size : w.heap.size ≤ w'.heap.size
  block : ∀ g, g < w.heap.size → (g < lo ∨ hi ≤ g) → w'.heap[g]? = w.heap[g]?
  kind : ∀ (g : Nat) (cur : Array Value) (e : TypeId) (z : Nat × Nat), e ≠ 47 → e ≠ 5 → w.heap[g]? = some (.cells cur e z) → w'.heap[g]? = w.heap[g]?
theorem Mid.refl (lo hi : Nat) (w : World) : Mid lo hi w w := ⟨rfl, rfl, rfl, Nat.le_refl _, fun _ _ _ => rfl, fun _ _ _ _ _ _ _ => rfl⟩
theorem Mid.set {lo hi g j : Nat} {u : Value} {cu : Array Value} {te : TypeId} {z : Nat × Nat} (h : Mid lo hi w w') (h1 : lo ≤ g) (h2 : g < hi) (hg : w'.heap[g]? = some (.cells cu te z)) (ht : te = 47 ∨ te = 5) : Mid lo hi w (w'.setCell ⟨g, j, none⟩ u) := by
  refine ⟨h.os, h.tape, h.output, by simpa [World.setCell] using h.size, fun k hk hh => (Below.heap_setCell _ _ _ _ (by intro e; have e' : k = g := e; omega)).trans (h.block k hk hh), fun k cur e z' e1 e2 hk => ?_⟩
  refine (Below.heap_setCell _ _ _ _ fun e3 => ?_).trans (h.kind k cur e z' e1 e2 hk)
  have e4 : k = g := e3
  have := h.kind k cur e z' e1 e2 hk
  rw [hk, e4, hg] at this
  cases this
  rcases ht with rfl | rfl
  · exact e1 rfl
  · exact e2 rfl
theorem Mid.below {lo hi B : Nat} (h : Mid lo hi w w') (h1 : B ≤ lo) (h2 : B ≤ w.heap.size) : Below B w w' := ⟨h.os, h.tape, h.output, h.size, fun g hg => h.block g (by omega) (.inl (by omega))⟩
theorem Mid.trans {lo hi : Nat} {x : World} (h : Mid lo hi w w') (k : Mid lo hi w' x) : Mid lo hi w x :=
  ⟨k.os.trans h.os, k.tape.trans h.tape, k.output.trans h.output, Nat.le_trans h.size k.size, fun g hg hh => (k.block g (Nat.lt_of_lt_of_le hg h.size) hh).trans (h.block g hg hh), fun g cur e z e1 e2 hg => (k.kind g cur e z e1 e2 ((h.kind g cur e z e1 e2 hg).trans hg)).trans (h.kind g cur e z e1 e2 hg)⟩
theorem Mid.of {lo hi : Nat} (h : Below w.heap.size w w') : Mid lo hi w w' := ⟨h.os, h.tape, h.output, h.size, fun g hg _ => h.block g hg, fun g _ _ _ _ _ hg => h.block g (Array.getElem?_eq_some_iff.1 hg).1⟩
theorem Mid.sys {lo hi : Nat} (h : Mid lo hi w w') {K : List Vec} {r : Nat} (hs : SysA A w b n size K r cl kb) (hA : ∀ g, A g → g < lo ∨ hi ≤ g) (hb : b < lo) (hk : kb < lo) : SysA A w' b n size K r cl kb :=
  hs.keep (h.block _ hs.sys.base.1 (.inl hb)) (h.block _ hs.sys.base.2.1 (.inl hk)) fun g ha hg => h.block g hg (hA g ha)
theorem Mid.eqs {lo hi ob : Nat} (h : Mid lo hi w w') (hs : EqsOwn ob A w v L) (hA : ∀ g, A g → g < lo ∨ hi ≤ g) : EqsOwn ob A w' v L :=
  hs.keep (fun g cur hg => h.kind g cur _ _ (by decide) (by decide) hg) fun g cur te _ ha hg => h.block g (Array.getElem?_eq_some_iff.1 hg).1 (hA g ha)
/-- What Add says of an equation, and what is kept behind it. -/
def AddSays (n size : Nat) (L : List Eqn) (cl : Bool) (q : Eqn) (kd bd : Int) (L' : List Eqn) (cl' : Bool) : Prop :=
  (cl = true ∧ kd = 0 ∧ bd = 7 ∧ L' = L ∧ cl' = true) ∨ (cl = false ∧ ((¬ (wholeB n q.1 = true ∧ q.2.length = size) ∧ kd = 0 ∧ bd = 2 ∧ L' = L ∧ cl' = false) ∨
    (EqOk n size q ∧ kd = ((kindQ L n q : Nat) : Int) ∧ bd = 0 ∧ L' = (if kindQ L n q = 1 then L ++ [q] else L) ∧ cl' = decide (kindQ L n q = 3))))
theorem addSays_some (n size : Nat) (L : List Eqn) (cl : Bool) (q : Eqn) (hq : Word q.1 ∧ Octets q.2) : ∃ kd bd L' cl', AddSays n size L cl q kd bd L' cl' := by
  cases cl with
  | true => exact ⟨0, 7, L, true, .inl ⟨rfl, rfl, rfl, rfl, rfl⟩⟩
  | false =>
    by_cases h : wholeB n q.1 = true ∧ q.2.length = size
    · exact ⟨_, 0, _, _, .inr ⟨rfl, .inr ⟨⟨(wholeB_iff.1 h.1).1, hq.1, (wholeB_iff.1 h.1).2, h.2, hq.2⟩, rfl, rfl, rfl, rfl⟩⟩⟩
    · exact ⟨0, 2, L, false, .inr ⟨rfl, .inl ⟨h, rfl, rfl, rfl, rfl⟩⟩⟩
theorem AddSays.ok {q : Eqn} {kd bd : Int} {L' : List Eqn} {cl' : Bool} (h : AddSays n size L cl q kd bd L' cl') (hok : ∀ p ∈ L, EqOk n size p) : ∀ p ∈ L', EqOk n size p := by
  rcases h with ⟨-, -, -, rfl, -⟩ | ⟨-, ⟨-, -, -, rfl, -⟩ | ⟨hq, -, -, rfl, -⟩⟩
  · exact hok
  · exact hok
  · intro p hp
    split at hp
    · rcases List.mem_append.1 hp with h | h
      · exact hok p h
      · rw [List.mem_singleton.1 h]; exact hq
    · exact hok p hp

theorem refAdd_says (h : PlayS w b kb n size L cl v) (hO : EqsOwn 0 A w v L) (hA : ∀ g, w.heap.size ≤ g → A g) {v1 v2 : Value} {q : Eqn} (hr : ListAt wordV w v1 q.1) (hs : ListAt byteV w v2 q.2) (hw : Word q.1) {kd bd : Int} {L' : List Eqn} {cl' : Bool} (hS : AddSays n size L cl q kd bd L' cl') :
    Calls Tryd.prog 15 #[sysV n size v cl, v1, v2] w fun e w' => ∃ v', e = .returned (.tuple #[sysV n size v' cl', .int .i64 kd, .int .i64 bd]) ∧ EqsOwn 0 A w' v' L' ∧ Below w.heap.size w w' := by
  obtain ⟨-, -, -, hn1, hn2, hs1, hs2, hr'⟩ := h.sys.base
  obtain ⟨hn12, hs4⟩ := h.low
  rcases hS with ⟨rfl, rfl, rfl, rfl, rfl⟩ | ⟨rfl, ⟨hno, rfl, rfl, rfl, rfl⟩ | ⟨hq, rfl, rfl, rfl, rfl⟩⟩
  · refine (refAdd_clash (n : Int) (size : Int) v v1 v2 L' h.eqs.at).mono ?_
    rintro e w' ⟨rfl, hb⟩
    exact ⟨v, rfl, hO.mono hb, hb⟩
  · refine (refAdd_form n size v v1 v2 L' q.1 q.2 h.eqs.at hr hs hw hn2 hno).mono ?_
    rintro e w' ⟨rfl, hb⟩
    exact ⟨v, rfl, hO.mono hb, hb⟩
  · exact refAdd_some n size v v1 v2 L q A hA hO hr hs h.ok hq (by omega) (by omega) (by omega)

theorem elAdd_says (hS0 : SysA A w b n size (vecsE L n) L.length cl kb) (hA : ∀ g, w.heap.size ≤ g → A g) (hT : Tab w) {v1 v2 : Value} {q : Eqn} (hr : ListAt wordV w v1 q.1) (hs : ListAt byteV w v2 q.2) (hw : Word q.1) {kd bd : Int} {L' : List Eqn} {cl' : Bool} (hS : AddSays n size L cl q kd bd L' cl') :
    Calls Tryd.prog 16 #[sysP b, v1, v2] w fun e w' => ∃ E, e = .returned (.tuple #[.int .i64 kd, E]) ∧ ErrAns bd nameElAdd w' E ∧ Touch b kb w w' ∧ SysA A w' b n size (vecsE L' n) L'.length cl' kb := by
  obtain ⟨-, -, -, hn1, hn2, hs1, hs2, hr'⟩ := hS0.sys.base
  obtain ⟨c0, c1, c2, c3, c4⟩ := hS0.sys.cells
  rcases hS with ⟨rfl, rfl, rfl, rfl, rfl⟩ | ⟨rfl, ⟨hno, rfl, rfl, rfl, rfl⟩ | ⟨hq, rfl, rfl, rfl, rfl⟩⟩
  · refine (elAdd_over b v1 v2 c4).mono ?_
    rintro e w' ⟨E, rfl, he, hb⟩
    exact ⟨E, rfl, he, Touch.of hb, hS0.mono hb⟩
  · refine (elAdd_form b n size v1 v2 q.1 q.2 c0 c1 c4 hr hs hw hn2 hno).mono ?_
    rintro e w' ⟨E, rfl, he, hb⟩
    exact ⟨E, rfl, he, Touch.of hb, hS0.mono hb⟩
  · refine (sysAddA b n size (vecsE L n) L.length kb v1 v2 q.1 q.2 hS0 hA hT hr hs hq).mono ?_
    rintro e w' ⟨rfl, ht, hs'⟩
    refine ⟨_, rfl, ErrAns.none _ _, ht, ?_⟩
    unfold addR at hs'
    unfold kindQ
    by_cases e1 : kindV n (vecsE L n) (longV q.1 q.2 n) = 1
    · rw [if_pos e1, if_pos e1] at hs'
      rw [if_pos e1, vecsE_snoc, List.length_append]
      exact hs'
    · rw [if_neg e1, if_neg e1] at hs'
      rw [if_neg e1]
      exact hs'

/-- Any equation is added: whatever it is, two blocks alone are touched. -/
theorem elAdd_any_row {K : List Vec} {r : Nat} (hS : Sys w b n size K r cl kb) (hT : Tab w) {v1 v2 : Value} {row sym : List Nat} (hr : ListAt wordV w v1 row) (hs : ListAt byteV w v2 sym) (hok : EqOk n size (row, sym)) :
    Calls Tryd.prog 16 #[sysP b, v1, v2] w fun e w' => ∃ kd E, e = .returned (.tuple #[.int .i64 kd, E]) ∧ Touch b kb w w' := by
  cases cl with
  | true =>
    refine (elAdd_over b v1 v2 hS.cells.2.2.2.2).mono ?_
    rintro e w' ⟨E, rfl, he, hb⟩
    exact ⟨_, _, rfl, Touch.of hb⟩
  | false =>
    refine (sysAdd b n size K r kb v1 v2 row sym hS hT hr hs hok).mono ?_
    rintro e w' ⟨rfl, ht, -⟩
    exact ⟨_, _, rfl, ht⟩
end
end Go.Proofs.YtnkkaggepokjeaaDoor
end
