import Derived.Test.YtkhdjjcflbdegaaGreatDoorG13
import Derived.Test.YtkhdjjcflbdegaaGreatDoorG10
import Derived.Test.YtkhdjjcflbdegaaGreatDoorG16
import Derived.Test.YtkhdjjcflbdegaaGreatDoorG11
import Derived.Test.YtkhdjjcflbdegaaGreatDoorG51
import Derived.Deep.RegionHeld3

section
/- Package elim: a system in memory. -/
namespace Go.Proofs.YtkhdjjcflbdegaaGreatDoor
open Go.RowKit Go.Extern.Stop Go.Stop Go.Extern

/-- A row of the call's own, at any age. -/
abbrev OwnRow (f : Nat → Value) (te : TypeId) (w : World) (v : Value) (n : Nat) (l : List Nat) : Prop := w.ownsRow 0 te 1 v n (l.map f)

def sysCells (n size kb : Nat) (r : Nat) (cl : Bool) : Array Value := #[.int .i64 (n : Int), .int .i64 (size : Int), .slice (some ⟨kb, 0, none⟩) n n, .int .i64 (r : Int), .bool cl]

/-- What lies at a place of the kept ones. -/
def PlaceAt (w : World) (n size c : Nat) (rv sv : Value) : Option Eqn → Prop
  | none => rv = nilS ∧ sv = nilS
  | some q => OwnRow wordV 163 w rv (kOf n) q.1 ∧ OwnRow byteV 5 w sv size q.2 ∧ EqOk n size q ∧ Lead (bitW q.1) c

/-- A system: its own block, that of the kept ones, and their rows. -/
structure SysM (w : World) (b kb n size : Nat) (f : Nat → Option Eqn) (rv sv : Nat → Value) (cl : Bool) : Prop where
  obj : w.heap[b]? = some (.cells (sysCells n size kb (cntF f n) cl) 111 (0, 0))
  kobj : ∃ cur, w.heap[kb]? = some (.cells cur 120 (0, 0))
  kcell : ∀ c, c < n → w.cell? ⟨kb, c * 2, none⟩ = some (rv c) ∧ w.cell? ⟨kb, c * 2 + 1, none⟩ = some (sv c)
  place : ∀ c, c < n → PlaceAt w n size c (rv c) (sv c) (f c)
  num : 1 ≤ n ∧ n ≤ 4096 ∧ 1 ≤ size ∧ size ≤ 64

section
variable {w w' : World} {b kb n size : Nat} {f : Nat → Option Eqn} {rv sv : Nat → Value} {cl : Bool}

theorem SysM.lt (h : SysM w b kb n size f rv sv cl) : b < w.heap.size := (Array.getElem?_eq_some_iff.1 h.obj).1
theorem SysM.klt (h : SysM w b kb n size f rv sv cl) : kb < w.heap.size := by obtain ⟨cur, hc⟩ := h.kobj; exact (Array.getElem?_eq_some_iff.1 hc).1
theorem SysM.ne (h : SysM w b kb n size f rv sv cl) : b ≠ kb := fun e => by
  obtain ⟨cur, hc⟩ := h.kobj
  have := h.obj
  rw [e, hc] at this
  simp at this
theorem SysM.cells (h : SysM w b kb n size f rv sv cl) : w.cell? ⟨b, 0, none⟩ = some (.int .i64 (n : Int)) ∧ w.cell? ⟨b, 1, none⟩ = some (.int .i64 (size : Int)) ∧ w.cell? ⟨b, 2, none⟩ = some (.slice (some ⟨kb, 0, none⟩) n n) ∧
    w.cell? ⟨b, 3, none⟩ = some (.int .i64 (cntF f n : Int)) ∧ w.cell? ⟨b, 4, none⟩ = some (.bool cl) :=
  ⟨cell_of_heap h.obj rfl, cell_of_heap h.obj rfl, cell_of_heap h.obj rfl, cell_of_heap h.obj rfl, cell_of_heap h.obj rfl⟩

theorem own_same {e : TypeId} {v : Value} {k base : Nat} {xs : List Value} (h : w.ownsRow base e 1 v k xs) (hs : ∀ (g : Nat) (cur : Array Value), w.heap[g]? = some (Obj.cells cur e (0, 0)) → w'.heap[g]? = w.heap[g]?) : w'.ownsRow base e 1 v k xs := by
  refine ⟨h.1, ?_⟩
  rcases h.2 with h1 | ⟨g, cap, cur, h1, h2, h3, h4⟩
  · exact .inl h1
  · exact .inr ⟨g, cap, cur, h1, h2, by rw [hs g cur h3]; exact h3, h4⟩

theorem own_set {e : TypeId} {v : Value} {k base : Nat} {xs : List Value} (h : w.ownsRow base e 1 v k xs) {g : Nat} {cur : Array Value} {t : TypeId} {z : Nat × Nat} (hg : w.heap[g]? = some (Obj.cells cur t z)) (hne : t ≠ e) (j : Nat) (u : Value) : (w.setCell ⟨g, j, none⟩ u).ownsRow base e 1 v k xs :=
  own_same h fun g' cur' hg' => Below.heap_setCell _ _ _ _ (by
    intro e1
    rw [show g' = g from e1, hg] at hg'
    simp at hg'
    exact hne hg'.2.1)

/-- A system that has not been touched. -/
theorem SysM.same (h : SysM w b kb n size f rv sv cl) (hb : w'.heap[b]? = w.heap[b]?) (hk : w'.heap[kb]? = w.heap[kb]?)
    (hs : ∀ (g : Nat) (e : TypeId) (cur : Array Value), e = 163 ∨ e = 5 → w.heap[g]? = some (Obj.cells cur e (0, 0)) → w'.heap[g]? = w.heap[g]?) : SysM w' b kb n size f rv sv cl := by
  refine ⟨by rw [hb]; exact h.obj, by rw [hk]; exact h.kobj, fun c hc => ?_, fun c hc => ?_, h.num⟩
  · obtain ⟨h1, h2⟩ := h.kcell c hc
    exact ⟨(World.cell?_of_block (w := w) (a := ⟨kb, c * 2, none⟩) hk).trans h1, (World.cell?_of_block (w := w) (a := ⟨kb, c * 2 + 1, none⟩) hk).trans h2⟩
  · have hp := h.place c hc
    cases hf : f c with
    | none => rw [hf] at hp; exact hp
    | some q =>
      rw [hf] at hp
      exact ⟨own_same hp.1 fun g cur hg => hs g _ cur (.inl rfl) hg, own_same hp.2.1 fun g cur hg => hs g _ cur (.inr rfl) hg, hp.2.2⟩

theorem SysM.mono (h : SysM w b kb n size f rv sv cl) (hb : Below w.heap.size w w') : SysM w' b kb n size f rv sv cl :=
  h.same (hb.block b h.lt) (hb.block kb h.klt) fun g _ _ _ hg => hb.block g (Array.getElem?_eq_some_iff.1 hg).1

/-- Nothing has turned but these two blocks. -/
structure Touch (b kb : Nat) (w w' : World) : Prop where
  os : w'.os = w.os
  tape : w'.tape = w.tape
  output : w'.output = w.output
  size : w.heap.size ≤ w'.heap.size
  block : ∀ k, k < w.heap.size → k ≠ b → k ≠ kb → w'.heap[k]? = w.heap[k]?
theorem Touch.of (h : Below w.heap.size w w') : Touch b kb w w' := ⟨h.os, h.tape, h.output, h.size, fun k hk _ _ => h.block k hk⟩
theorem Touch.trans {x : World} (h : Touch b kb w w') (k : Touch b kb w' x) : Touch b kb w x :=
  ⟨k.os.trans h.os, k.tape.trans h.tape, k.output.trans h.output, Nat.le_trans h.size k.size, fun i hi h1 h2 => (k.block i (Nat.lt_of_lt_of_le hi h.size) h1 h2).trans (h.block i hi h1 h2)⟩
theorem Touch.setCell (h : Touch b kb w w') {p : Addr} (hp : p.block = b ∨ p.block = kb) (u : Value) : Touch b kb w (w'.setCell p u) :=
  h.trans ⟨rfl, rfl, rfl, by simp [World.setCell], fun k _ h1 h2 => Below.heap_setCell _ _ _ _ (by rcases hp with e | e <;> rw [e] <;> assumption)⟩
theorem Touch.drew (h : Touch b kb w w') : Touch b kb w w'.drew := ⟨h.os, h.tape, h.output, h.size, h.block⟩
theorem Touch.below {B : Nat} (h : Touch b kb w w') (h1 : B ≤ b) (h2 : B ≤ kb) (h3 : B ≤ w.heap.size) : Below B w w' := ⟨h.os, h.tape, h.output, h.size, fun k hk => h.block k (by omega) (by omega) (by omega)⟩

theorem Touch.own {e : TypeId} {v : Value} {k base : Nat} {xs : List Value} (h : Touch b kb w w') (hs : SysM w b kb n size f rv sv cl) (he : e ≠ 111 ∧ e ≠ 120) (ho : w.ownsRow base e 1 v k xs) : w'.ownsRow base e 1 v k xs :=
  own_same ho fun g cur hg => by
    refine h.block g (Array.getElem?_eq_some_iff.1 hg).1 (fun e1 => ?_) (fun e1 => ?_)
    · have := hs.obj
      rw [← e1, hg] at this
      simp at this
      exact he.1 this.2
    · obtain ⟨cur', hc⟩ := hs.kobj
      rw [← e1, hg] at hc
      simp at hc
      exact he.2 hc.2

/-- Another system than the one that is touched. -/
theorem Touch.other {b' kb' n' size' : Nat} {f' : Nat → Option Eqn} {rv' sv' : Nat → Value} {cl' : Bool} (h : Touch b kb w w') (hs : SysM w b kb n size f rv sv cl) (ho : SysM w b' kb' n' size' f' rv' sv' cl') (hb : b' ≠ b) (hk : kb' ≠ kb) : SysM w' b' kb' n' size' f' rv' sv' cl' := by
  have h1 : b' ≠ kb := fun e => by
    obtain ⟨cur, hc⟩ := hs.kobj
    have := ho.obj
    rw [e, hc] at this
    simp at this
  have h2 : kb' ≠ b := fun e => by
    obtain ⟨cur, hc⟩ := ho.kobj
    have := hs.obj
    rw [← e, hc] at this
    simp at this
  refine ho.same (h.block _ ho.lt hb h1) (h.block _ ho.klt h2 hk) fun g e cur he hg => ?_
  refine h.block g (Array.getElem?_eq_some_iff.1 hg).1 (fun e1 => ?_) (fun e1 => ?_)
  · have := hs.obj
    rw [← e1, hg] at this
    rcases he with rfl | rfl <;> simp at this
  · obtain ⟨cur', hc⟩ := hs.kobj
    rw [← e1, hg] at hc
    rcases he with rfl | rfl <;> simp at hc

theorem SysM.stair (h : SysM w b kb n size f rv sv cl) : Stair (uF f n) n := fun c hc => by
  have hp := h.place c hc
  cases hf : f c with
  | none => exact .inl (uF_none hf)
  | some q =>
    rw [hf] at hp
    rw [uF_some hf]
    exact .inr (longV_lead hc hp.2.2.2)
end

/-- A system, by what its equations span: where it lies, what it has kept, how many, whether it has clashed. -/
def Sys (w : World) (b n size : Nat) (K : List Vec) (r : Nat) (cl : Bool) (kb : Nat) : Prop :=
  ∃ f rv sv, SysM w b kb n size f rv sv cl ∧ SpEq (stL (uF f n) n) K ∧ cntF f n = r
theorem Sys.mono {w w' : World} {b n size r kb : Nat} {K : List Vec} {cl : Bool} (h : Sys w b n size K r cl kb) (hb : Below w.heap.size w w') : Sys w' b n size K r cl kb := by
  obtain ⟨f, rv, sv, h1, h2⟩ := h
  exact ⟨f, rv, sv, h1.mono hb, h2⟩
end Go.Proofs.YtkhdjjcflbdegaaGreatDoor
end

section
/- A list of integers that are columns, read as columns. -/
namespace Go.Proofs.YtkhdjjcflbdegaaGreatDoor
open Go.RowKit Go.Extern.Stop Go.Stop Go.Extern

theorem ListAt.back {w : World} {v : Value} {l : List Nat} (h : ListAt intV w v (l.map Int.ofNat)) : ListAt colV w v l := by
  obtain ⟨a, cap, rfl, hc, hm, h⟩ := h
  have hl : (l.map Int.ofNat).length = l.length := List.length_map ..
  refine ⟨a, cap, by rw [hl], by omega, hm, fun hp => ?_⟩
  obtain ⟨b, off, rfl, hcell⟩ := h (by omega)
  refine ⟨b, off, rfl, fun j hj => ?_⟩
  rw [hcell j (by omega), List.getElem_map]
  rfl
end Go.Proofs.YtkhdjjcflbdegaaGreatDoor
end

section
/- Package system: fixed; packed.Pack of a row's places. -/
namespace Go.Proofs.YtkhdjjcflbdegaaGreatDoor
open Go.RowKit Go.Extern.Stop Go.Stop Go.Extern

theorem outI_no {r : List Nat} {n : Nat} (h : ∀ c ∈ r, c < n) : outI (r.map Int.ofNat) (n : Int) = false := by
  unfold outI
  rw [List.any_eq_false]
  intro c hc
  obtain ⟨q, hq, rfl⟩ := List.mem_map.1 hc
  have := h q hq
  have e : Int.ofNat q = (q : Int) := rfl
  rw [e]
  simp
  omega
theorem Pack_row {w : World} (v : Value) (r : List Nat) (n : Nat) (h : ListAt colV w v r) (hn : n ≤ 4096) (hr : ∀ c ∈ r, c < n) (hd : r.Nodup) :
    Calls Tryz.prog 83 #[v, .int .i64 (n : Int)] w fun e w' => e = .returned (.tuple #[.slice (some ⟨w.heap.size, 0, none⟩) (kOf n) (kOf n), .nilIface]) ∧
      w'.ownsRow w.heap.size 163 1 (.slice (some ⟨w.heap.size, 0, none⟩) (kOf n) (kOf n)) (kOf n) ((packR n r).map wordV) ∧ Below w.heap.size w w' := by
  have hk : (sizeI (n : Int)).toNat = kOf n := by rw [sizeI_of hn]; rfl
  refine (Pack_own v (r.map Int.ofNat) (n : Int) h.cols (by omega) (by omega) (outI_no hr) (ofNat_nodup hd)).mono ?_
  rintro e w' ⟨rfl, ws, h1, h2, h3⟩
  rw [hk] at h1 h2 ⊢
  rw [show ws = packR n r from h2.unique (packR_packs n r)] at h1
  exact ⟨rfl, h1, h3⟩

theorem MatFresh.set {α : Type} {f : α → Value} {w : World} {te e : TypeId} {base base2 g i n cap m : Nat} {L : List (List α)} {x : Value} {r : List α} (h : MatFresh f te base e w (.slice (some ⟨g, 0, none⟩) n cap) L) (hi : i < L.length) (hn : L.length = n) (hne : e ≠ te)
    (hx : w.ownsRow base2 te 1 x m (r.map f)) (hb : base ≤ base2) : MatFresh f te base e (w.setCell ⟨g, i, none⟩ x) (.slice (some ⟨g, 0, none⟩) n cap) (L.set i r) := by
  subst hn
  obtain ⟨vs, h1, h2, h3⟩ := h
  have hl : vs.length = L.length := by have := h1.1; omega
  obtain ⟨k1, k2⟩ := h1.stored i x
  refine ⟨vs.set i x, by rw [List.length_set]; exact k1, fun j => ?_, fun y hy b hyb => ?_⟩
  · rw [getD_set _ _ _ _ _ (by omega), getD_set _ _ _ _ _ hi]
    by_cases e1 : j = i
    · rw [if_pos e1, if_pos e1]
      exact (ElAt.own (base := base) hx).grown hne h1 k2
    · rw [if_neg e1, if_neg e1]
      exact (h2 j).grown hne h1 k2
  · rcases List.mem_or_eq_of_mem_set hy with hy | rfl
    · exact h3 y hy b hyb
    · exact Nat.le_trans hb (hx.lt b hyb).1
theorem MatFresh.blank {α : Type} (f : α → Value) {w : World} {te e : TypeId} {base : Nat} {v : Value} {n : Nat} (h : w.ownsRow base e 1 v n (List.replicate n nilS)) : MatFresh f te base e w v (List.replicate n []) := by
  refine ⟨List.replicate n nilS, by rw [List.length_replicate]; exact h, fun i => ?_, fun x hx b hb => ?_⟩
  · have e1 : (List.replicate n nilS).getD i nilS = nilS := by
      rw [List.getD_eq_getElem?_getD, List.getElem?_replicate]
      split <;> rfl
    have e2 : (List.replicate n ([] : List α)).getD i [] = [] := by
      rw [List.getD_eq_getElem?_getD, List.getElem?_replicate]
      split <;> rfl
    rw [e1, e2]
    exact ElAt.nil f te base w
  · rw [(List.mem_replicate.1 hx).2] at hb
    cases hb

set_option maxRecDepth 1000000 in
set_option maxHeartbeats 4000000 in
theorem fixed_ok {w : World} (k s h l p : Nat) (H : OfP k s h l p) (hk1 : 1 ≤ k) (hk2 : k ≤ 128) :
    Calls Tryz.prog 63 #[parV k s h l p] w fun e w' => ∃ g, e = .returned (.tuple #[.slice (some ⟨g, 0, none⟩) (s + h) (s + h), .nilIface]) ∧ MatFresh wordV 163 w.heap.size 79 w' (.slice (some ⟨g, 0, none⟩) (s + h) (s + h)) (packL l (rowsF0 k s h)) ∧ Below w.heap.size w w' := by
  obtain ⟨i0, hi, hz0, hz1, hz2⟩ := info_parts info_row
  obtain ⟨b1, b2, b3, b4, b5, b6, b7⟩ := H.bounds hk1 hk2
  have hl : l = k + s + h := H.2.2.1
  obtain ⟨w0, hw0, hb0, hbx⟩ := par_laid w k s h l p
  have HW0 := Lib.hid hw0
  have HB0 := Lib.hid hb0
  have HBX := Lib.hid hbx
  obtain ⟨c0, c1, c2, c3, c4⟩ := hbx.cells
  have HA : Hid (∀ w, Calls Tryz.prog 99 #[.agg #[.int .i64 (k : Int), .int .i64 (s : Int), .int .i64 (h : Int), .int .i64 (l : Int), .int .i64 (p : Int)]] w fun e w' => ∃ v, e = .returned (.tuple #[v, .nilIface]) ∧ MatAt colV w' v (rowsF0 k s h) ∧ Below w.heap.size w w') := Lib.hid fun w => by
    refine (All_ok k s h l p H hk1 hk2).mono ?_
    rintro e w' ⟨v, g, rfl, hg, hm, hb⟩
    obtain rfl := graysE_eq hg
    exact ⟨v, rfl, hm, hb⟩
  have HIN : Hid (∀ i, i < s + h → (∀ c ∈ (rowsF0 k s h).getD i [], c < l) ∧ ((rowsF0 k s h).getD i []).Nodup) := Lib.hid fun i hi => by
    rw [hl]
    exact rowsF0_getD (by rw [rowsF0_length]; exact hi) _ rfl
  have HPL : Hid (fillTo (fun i => packR l ((rowsF0 k s h).getD i [])) [] (s + h) (s + h) = packL l (rowsF0 k s h)) := Lib.hid (by
    rw [fillTo_all]
    unfold packL
    apply List.ext_getElem
    · simp [rowsF0_length]
    · intro i h1 h2
      have h3 : i < (rowsF0 k s h).length := by simpa using h2
      simp [List.getD_eq_getElem?_getD, h3])
  have hrl := rowsF0_length k s h
  have hls : l ≤ 157 := b5
  obtain ⟨n, hn⟩ : ∃ n, s + h = n := ⟨_, rfl⟩
  rw [hn] at HIN HPL hrl ⊢
  have hnb : n ≤ 40 := by omega
  have hn1 : 1 ≤ n := by omega
  generalize rowsF0 k s h = R at *
  clear hw0 hb0 hbx H hk1 hk2 b1 b2 b3 b4 b5 b6 b7 hl hn
  unfold parV parC
  go_enter Tryz.func63, Tryz.ntmps63
  go_upto_region 1 with fail
  rw [← HW0.out]
  go_wp2_with fail
  refine (HA.out _).mono ?_
  rintro e w1 ⟨v, rfl, hm, hb1⟩
  have hml := hm.len
  obtain ⟨av, cv, rfl, hcv, hcm, hcell⟩ := hm.opens
  rw [hrl] at hcv hcell ⊢
  obtain ⟨bg, og, rfl, hcc⟩ := hcell (by omega)
  have HC := Lib.hid hcc
  have HM := Lib.hid hm
  have HB1 := Lib.hid (HB0.out.trans (hb1.mono HB0.out.size))
  have HX1 := Lib.hid (HBX.out.mono hb1)
  have hsz1 := HB1.out.size
  clear hm hb1 hcell hcc c0 c1 c2 c3 c4 HBX
  go_wp2_with (at_make; refine wpList_make_full _ rfl _ _ 76 rfl w.heap.size 79 i0 (.slice none 0 0) 1 Tryz.underlying76 hi hz0 hz1 .i64 .i64 _ _ n rfl rfl rfl rfl (by rw [hz2]; omega) (by unfold maxLen; omega) hsz1 ?_; intro w2 hown0 hgrow0; have hb0 := Lib.hid ((Below.refl w1.heap.size w1).grown hgrow0 (Nat.le_refl _) (fun k hk => by cases hk)); have ho0 := Lib.hid hown0; clear hown0 hgrow0)
  have HF0 : Hid (MatFresh wordV 163 w.heap.size 79 w2 (.slice (some ⟨w1.heap.size, 0, none⟩) n n) (fillTo (fun i => packR l (R.getD i [])) [] n 0)) := Lib.hid (by
    rw [fillTo_zero]
    refine MatFresh.blank wordV ?_
    have := ho0.out
    rw [Nat.mul_one] at this
    exact toList_madeCells_one (.slice none 0 0) n ▸ this)
  obtain ⟨g, hg⟩ : ∃ g, w1.heap.size = g := ⟨_, rfl⟩
  have HG := Lib.hid hg
  rw [hg] at HF0 hb0 ⊢
  have HPS := Lib.hid (fillTo_set (fun i => packR l (R.getD i [])) [] n)
  have HFL := Lib.hid (fillTo_length (fun i => packR l (R.getD i [])) [] n)
  clear hg ho0
  generalize fillTo (fun i => packR l (R.getD i [])) [] n = FT at *
  go_loopw [22] (fun i wr => ∃ j : Nat, j ≤ n ∧ i = .int .i64 j ∧ MatFresh wordV 163 w.heap.size 79 wr (.slice (some ⟨g, 0, none⟩) n n) (FT j) ∧ Below g w1 wr) (fun i _ => n - (intOf i).toNat)
  case atStart => exact ⟨0, Nat.zero_le _, rfl, HF0.out, hb0.out⟩
  case round =>
    obtain ⟨j, hj, rfl, hmf, hbel⟩ := hrel
    clear HF0 hb0
    have HF := Lib.hid hmf
    have hbel1 : Below w1.heap.size w1 wr := by rw [HG.out]; exact hbel
    have HB := Lib.hid hbel1
    have HB2 := Lib.hid (HB1.out.trans (hbel1.mono hsz1))
    have HXR := Lib.hid (HX1.out.mono hbel1)
    obtain ⟨c0, c1, c2, c3, c4⟩ := HXR.out.cells
    by_cases hlt : j < n
    · obtain ⟨x, hx, hlx⟩ := HC.out j hlt
      have hx' : wr.cell? ⟨bg, og + j, none⟩ = some x := (hbel1.cell (p := ⟨bg, og + j, none⟩) (World.block_lt_of_cell? w1 _ hx)).trans hx
      have hdr : Below wr.heap.size wr wr.drew := (Below.refl _ _).drew
      have HDR := Lib.hid hdr
      obtain ⟨ax, cx, hxe, -, -, -⟩ := id hlx
      have HPK : Hid (Calls Tryz.prog 83 #[x, .int .i64 (l : Int)] wr fun e w' => ∃ a c, e = .returned (.tuple #[.slice a (kOf l) c, .nilIface]) ∧ w'.ownsRow wr.heap.size 163 1 (.slice a (kOf l) c) (kOf l) ((packR l (R.getD j [])).map wordV) ∧ Below wr.heap.size wr w') := Lib.hid (by
        refine (Pack_row x (R.getD j []) l (hlx.mono hbel1) (by omega) (HIN.out j hlt).1 (HIN.out j hlt).2).mono ?_
        rintro e w' ⟨rfl, h1, h2⟩
        exact ⟨_, _, rfl, h1, h2⟩)
      have HSET := Lib.hid (HPS.out j)
      have HXS : Hid (∀ V, Below wr.heap.size wr V → V.cell? ⟨w.heap.size, 3, none⟩ = some (.int .i64 (l : Int))) := Lib.hid fun V hV => (HXR.out.mono hV).cells.2.2.2.1
      subst hxe
      clear hx hlx hmf hbel hbel1 hdr
      generalize (R.getD j []).length = rl at *
      generalize packR l (R.getD j []) = PR at *
      go_wp2_with fail
      refine HPK.out.mono ?_
      rintro e w5 ⟨a5, c5, rfl, ho5, hb5⟩
      have HB5 := Lib.hid hb5
      have HO5 := Lib.hid ho5
      obtain ⟨vs5, hv5, he5, hf5⟩ := HF.out.mono hb5
      rw [HFL.out] at hv5
      have hcs := hv5.cellAt j (by omega)
      obtain ⟨old, hold⟩ : ∃ old, vs5[j]? = some old := ⟨_, List.getElem?_eq_getElem (by have := hv5.1; omega)⟩
      rw [hold] at hcs
      have hfr := hv5.frozenAt j
      clear hold hv5 he5 hf5 ho5 hb5
      go_wp2
      go_roundw
      case rel => exact ⟨j + 1, by omega, by go_num, by rw [← HSET.out]; exact (HF.out.mono HB5.out).set (by rw [HFL.out]; exact hlt) (HFL.out _) (by decide) HO5.out HB2.out.size, by have := HB.out.trans (HB5.out.mono HB.out.size); rw [HG.out] at this; exact this.setCell (p := ⟨g, j, none⟩) (Nat.le_refl _) _⟩
      case measure => simp [intOf]; omega
    · obtain rfl : j = n := by omega
      clear hmf hbel hbel1
      go_wp2
      go_ret2
      exact ⟨g, rfl, by rw [← HPL.out]; exact HF.out, HB2.out⟩
end Go.Proofs.YtkhdjjcflbdegaaGreatDoor
end
