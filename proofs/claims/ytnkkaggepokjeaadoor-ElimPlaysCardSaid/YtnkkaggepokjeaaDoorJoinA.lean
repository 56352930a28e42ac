import Derived.Test.YtnkkaggepokjeaaDoorSyB
import Derived.Test.YtnkkaggepokjeaaDoorLists
import Derived.Deep.AppendLies
import Derived.Deep.RegionLaw
import Derived.Test.YtnkkaggepokjeaaDoorPkUn
import Derived.Test.YtnkkaggepokjeaaDoorJoinD

section
/- Package symbol: Pick. -/
namespace Go.Proofs.YtnkkaggepokjeaaDoor
open Go.RowKit Go.Extern.Stop Go.Stop Go.Extern

theorem MatOwn.none {α : Type} {f : α → Value} {te e : TypeId} {base : Nat} (w : World) : MatOwn f te base e w (.slice none 0 0) [] :=
  ⟨[], World.ownsRow_nil _ _ _ _, fun i => by simpa using ElAt.nil f te base _⟩
theorem colsTo_length_le2 (ws : List Nat) (n : Nat) : (colsTo ws n).length ≤ 64 * ws.length := by
  obtain ⟨B, -, hB⟩ := cols_split ws n
  have := colsOf_length_le ws
  rw [hB, List.length_append] at this
  omega

theorem Pick_bad {w : World} (vw v : Value) (ws : List Nat) (L : List (List Nat)) (n k : Int) (hvw : ListAt wordV w vw ws) (h : MatAt byteV w v L) (hn : I64 n) (hk : checkS L n = k) (hk0 : k ≠ 0) :
    Calls Tryd.prog 47 #[vw, v, .int .i64 n] w fun e w' => ∃ E, e = .returned (.tuple #[.slice none 0 0, E]) ∧ ErrAns k namePick w' E ∧ Below w.heap.size w w' := by
  have HM := Lib.hid h
  have HK := Lib.hid hk
  have HN := Lib.hid hn
  have HK0 := Lib.hid hk0
  have hb : (k != 0) = true := by simpa using hk0
  have hb2 : (k == 0) = false := by simpa using hk0
  obtain ⟨a, cap, rfl, -, -, -⟩ := h.opens
  obtain ⟨aw, cw, rfl, -, -, -⟩ := hvw
  clear h hk hn hk0
  go_enter Tryd.func47, Tryd.ntmps47
  go_wp2_with fail
  refine (wrong_any _ L n HM.out HN.out).mono ?_
  rintro e w1 ⟨rfl, rfl⟩
  rw [HK.out]
  go_wp2_with fail
  refine (New_ans namePick k HK0.out _).mono ?_
  rintro e w1 ⟨E1, rfl, he1, hb1⟩
  have HE1 := Lib.hid he1
  have HB1 := Lib.hid hb1
  obtain ⟨u, x, rfl⟩ := he1.some HK0.out
  clear he1 hb1
  go_wp2
  go_ret2
  exact ⟨_, rfl, HE1.out, HB1.out⟩

/-- What Pick says of symbols of m bytes. -/
def PickSays (ws : List Nat) (L : List (List Nat)) (m : Nat) (w w' : World) (e : Ending) : Prop :=
  if behindB ws L.length = true then ∃ E, e = .returned (.tuple #[.slice none 0 0, E]) ∧ ErrAns 2 namePick w' E ∧ Below w.heap.size w w'
  else ∃ v', e = .returned (.tuple #[v', .nilIface]) ∧ w'.ownsRow w.heap.size 5 1 v' m ((sumS m (pickTo ws L L.length)).map byteV) ∧ Below w.heap.size w w'

set_option maxRecDepth 1000000 in
set_option maxHeartbeats 4000000 in
theorem Pick_ok {w : World} (vw v : Value) (ws : List Nat) (L : List (List Nat)) (m : Nat) (hvw : ListAt wordV w vw ws) (hww : Word ws) (hwl : ws.length ≤ 100000) (h : MatAt byteV w v L) (h1 : 1 ≤ m) (h2 : m ≤ 64) (hl : ∀ r ∈ L, r.length = m) (hw : ∀ r ∈ L, Octets r) :
    Calls Tryd.prog 47 #[vw, v, .int .i64 (m : Int)] w fun e w' => PickSays ws L m w w' e := by
  obtain ⟨i0, hi0, hz0, hz1, hz2⟩ := info_parts info_sym
  have hlen := h.len
  have HM := Lib.hid h
  have HK := Lib.hid (checkS_ok h1 h2 hl)
  have HL := Lib.hid hl
  have HW := Lib.hid hw
  have HVW := Lib.hid hvw
  have HWW := Lib.hid hww
  obtain ⟨a, cap, rfl, hcap, -, hcell⟩ := h.opens
  obtain ⟨aw, cw, rfl, -, -, -⟩ := hvw
  have HC := Lib.hid hcell
  clear h hl hw hww hcell
  go_enter Tryd.func47, Tryd.ntmps47
  go_wp2_with fail
  refine (wrong_any _ L (m : Int) HM.out (by omega)).mono ?_
  rintro e w1 ⟨rfl, rfl⟩
  rw [HK.out]
  go_wp2_with fail
  go_loopw [9, 21] (fun o i wr => ∃ k : Nat, k ≤ L.length ∧ i = .int .i64 k ∧ MatOwn byteV 5 w.heap.size 39 wr o (pickTo ws L k) ∧ Below w.heap.size w wr) (fun _ i _ => L.length - (intOf i).toNat)
  case atStart => exact ⟨0, Nat.zero_le _, rfl, MatOwn.none w, Below.refl _ _⟩
  case round =>
    obtain ⟨k, hk, rfl, ⟨vs, hown, hel⟩, hbel⟩ := hrel
    have hsz := hbel.size
    by_cases hlt : k < L.length
    · obtain ⟨b, off, rfl, hcc⟩ := HC.out (by omega)
      obtain ⟨x, hx, hlx⟩ := hcc k hlt
      have hx1 := (hbel.cell (p := ⟨b, off + k, none⟩) (World.block_lt_of_cell? w _ hx)).trans hx
      have HEX : Hid (ElAt byteV 5 w.heap.size wr x (L.getD k [])) := Lib.hid (ElAt.old hlx hbel)
      have hrl := hlx.len
      obtain ⟨ax, cx, rfl, -, -, -⟩ := hlx
      have HQ := Lib.hid (pickTo_length ws L k)
      have hq := colsTo_length_le2 ws k
      have HO := Lib.hid hown
      rw [pickTo_length] at HO
      have HEL := Lib.hid hel
      have HB := Lib.hid hbel
      have HI : Hid (hasI ws (k : Int) = bitW ws k) := Lib.hid (by rw [hasI, if_neg (by omega)]; rfl)
      have HVW1 := Lib.hid (HVW.out.mono hbel)
      have HP := Lib.hid (@pickTo_in ws L k)
      have HPO := Lib.hid (@pickTo_out ws L k)
      clear hcc hx hown hel hbel
      generalize (L.getD k []).length = ll at *
      generalize (colsTo ws k).length = q at *
      cases hb : bitW ws k with
      | true =>
        have HS := Lib.hid (HP.out hb)
        have HI2 : Hid (hasI ws (k : Int) = true) := Lib.hid (HI.out.trans hb)
        clear hb HP HPO HI
        go_wp2_with fail
        refine (Has_any _ ws (k : Int) HVW1.out HWW.out (by omega)).mono ?_
        rintro e w1 ⟨rfl, rfl⟩
        rw [HI2.out]
        go_wp2_with (at_builtin; refine wpList_append_own _ rfl (.tmp 29) (.tmp 31) 52 rfl w.heap.size 39 i0 (.slice none 0 0) 1 24 Tryd.underlying52 hi0 hz0 hz1 hz2 rfl (by decide) u9 q vs rfl (HO.out.alloc _) ⟨wr.heap.size, 0, none⟩ 1 1 [.slice ax ll cx] rfl rfl (cell_one_new _ _ _) (fun x hx => by simp at hx; subst hx; rfl) (by unfold maxLen; omega) (by omega) (by simp; omega) ?_; intro v2 w2 hown1 hgrow1 _; have hb2 := Lib.hid ((HB.out.alloc hsz _).grown hgrow1 (by simp; omega) (fun k hk => (HO.out.lt k hk).1)); have ho2 : Hid (MatOwn byteV 5 w.heap.size 39 w2 v2 (pickTo ws L k ++ [L.getD k []])) := Lib.hid (MatOwn.app (by decide) (by rw [HQ.out]; exact HO.out) HEL.out HEX.out (by rw [HQ.out]; exact hown1) hgrow1); clear hown1 hgrow1)
        go_roundw
        case rel => exact ⟨k + 1, by omega, by go_num, by rw [HS.out]; exact ho2.out, hb2.out⟩
        case measure => simp [intOf]; omega
      | false =>
        have HS := Lib.hid (HPO.out hb)
        have HI2 : Hid (hasI ws (k : Int) = false) := Lib.hid (HI.out.trans hb)
        clear hb HP HPO HI
        go_wp2_with fail
        refine (Has_any _ ws (k : Int) HVW1.out HWW.out (by omega)).mono ?_
        rintro e w1 ⟨rfl, rfl⟩
        rw [HI2.out]
        go_wp2
        go_roundw
        case rel => exact ⟨k + 1, by omega, by go_num, by rw [HS.out]; exact ⟨vs, by rw [HQ.out]; exact HO.out, HEL.out⟩, HB.out⟩
        case measure => simp [intOf]; omega
    · have hk' : k = L.length := by omega
      have hM := MatOwn.at ⟨vs, hown, hel⟩
      rw [hk'] at hM
      have HPM := Lib.hid hM
      have HB := Lib.hid hbel
      have HPL := Lib.hid (fun r hr => HL.out r (pickTo_mem (ws := ws) (Nat.le_refl L.length) r hr))
      have HPW := Lib.hid (fun r hr => HW.out r (pickTo_mem (ws := ws) (Nat.le_refl L.length) r hr))
      have HVW1 := Lib.hid (HVW.out.mono hbel)
      have hpl := pickTo_length ws L L.length
      have hq := colsTo_length_le2 ws L.length
      have hq2 := colsOf_length_le ws
      have HBH : Hid (behindB ws L.length = decide ((colsTo ws L.length).length < (colsOf ws).length)) := Lib.hid rfl
      obtain ⟨pa, pc, rfl, -, -, -⟩ := hM.opens
      rw [hpl] at HPM ⊢
      have HPS : Hid (∀ e w', PickSays ws L m w w' e = if behindB ws L.length = true then ∃ E, e = .returned (.tuple #[.slice none 0 0, E]) ∧ ErrAns 2 namePick w' E ∧ Below w.heap.size w w'
        else ∃ v', e = .returned (.tuple #[v', .nilIface]) ∧ w'.ownsRow w.heap.size 5 1 v' m ((sumS m (pickTo ws L L.length)).map byteV) ∧ Below w.heap.size w w') := Lib.hid fun _ _ => rfl
      clear hown hel hbel hM hpl
      generalize pickTo ws L L.length = R at *
      generalize behindB ws L.length = bh at *
      generalize hcq : (colsTo ws L.length).length = q at *
      generalize hco : (colsOf ws).length = z at *
      have HCO := Lib.hid hco
      clear hcq hco
      by_cases hqz : q < z
      · have HBT : Hid (bh = true) := Lib.hid (by rw [HBH.out]; exact decide_eq_true hqz)
        have hqI : (q : Int) < (z : Int) := by omega
        clear HBH
        go_wp2_with fail
        refine (Count_any _ ws HVW1.out HWW.out hwl).mono ?_
        rintro e w1 ⟨rfl, rfl⟩
        rw [HCO.out]
        go_wp2_with fail
        refine (New_ans namePick 2 (by decide) _).mono ?_
        rintro e w1 ⟨E1, rfl, he1, hb1⟩
        have HE1 := Lib.hid he1
        have HB1 := Lib.hid (HB.out.trans (hb1.mono hsz))
        obtain ⟨u, x, rfl⟩ := he1.some (by decide)
        clear he1 hb1
        go_wp2
        go_ret2
        rw [HPS.out, if_pos HBT.out]
        exact ⟨_, rfl, HE1.out, HB1.out⟩
      · have HBT : Hid (¬ bh = true) := Lib.hid (by rw [HBH.out, decide_eq_false hqz]; decide)
        have hqI : (z : Int) ≤ (q : Int) := by omega
        clear HBH
        go_wp2_with fail
        refine (Count_any _ ws HVW1.out HWW.out hwl).mono ?_
        rintro e w1 ⟨rfl, rfl⟩
        rw [HCO.out]
        go_wp2_with fail
        refine (added_any _ R m HPM.out HPL.out HPW.out (by omega)).mono ?_
        rintro e w1 ⟨v1, rfl, ho1, hb1⟩
        have HO1 := Lib.hid (ownsRow_base ho1 hsz)
        have HB1 := Lib.hid (HB.out.trans (hb1.mono hsz))
        obtain ⟨ao, co, rfl, -, -⟩ := own_open ho1
        clear ho1 hb1
        go_wp2
        go_ret2
        rw [HPS.out, if_neg HBT.out]
        exact ⟨_, rfl, HO1.out, HB1.out⟩
end Go.Proofs.YtnkkaggepokjeaaDoor
end

section
/- Package symbol: Split. -/
namespace Go.Proofs.YtnkkaggepokjeaaDoor
open Go.RowKit Go.Extern.Stop Go.Stop Go.Extern

theorem ListAt.cutAt {α : Type} {f : α → Value} {w : World} {b off cap : Nat} {l : List α} (h : ListAt f w (.slice (some ⟨b, off, none⟩) l.length cap) l) (c : Nat) (hc : c ≤ l.length) :
    ListAt f w (.slice (some ⟨b, off + c, none⟩) (l.length - c) (cap - c)) (l.drop c) := by
  obtain ⟨a', cap', e, h1, h2, h3⟩ := h
  cases e
  refine ⟨_, cap - c, by rw [List.length_drop], by rw [List.length_drop]; omega, by omega, fun hp => ⟨b, off + c, rfl, fun j hj => ?_⟩⟩
  rw [List.length_drop] at hj hp
  obtain ⟨b', off', e, hcell⟩ := h3 (by omega)
  cases e
  rw [Nat.add_assoc, hcell (c + j) (by omega)]
  simp

theorem ListAt.addr0 {α : Type} {f : α → Value} {w : World} {a a' : Option Addr} {n cap : Nat} {l : List α} (h : ListAt f w (.slice a n cap) l) (h0 : n = 0) : ListAt f w (.slice a' n cap) l := by
  obtain ⟨a1, cap1, e, h1, h2, -⟩ := h
  obtain ⟨rfl, rfl, rfl⟩ : a = a1 ∧ n = l.length ∧ cap = cap1 := by simpa using e
  exact ⟨a', _, rfl, h1, h2, fun hp => by omega⟩

theorem piece_splice (P : List Nat) (m k : Nat) : splice (List.replicate m (byteV 0)) 0 (((P.drop (k * m)).take m).map byteV) = (pieceAt P m k).map byteV := by
  unfold splice pieceAt
  have hcl : (((P.drop (k * m)).take m).map byteV).length = min m (P.length - k * m) := by simp
  rw [List.take_zero, List.nil_append, Nat.zero_add, hcl]
  generalize hq : k * m = q at *
  apply List.ext_getElem?
  intro j
  rw [List.getElem?_append, hcl]
  by_cases hjm : j < m
  · by_cases hj : q + j < P.length
    · rw [if_pos (by omega)]
      simp [hjm, List.getD_eq_getElem?_getD, hj]
    · rw [if_neg (by omega), List.getElem?_drop, List.getElem?_replicate, if_pos (by omega)]
      simp [hjm, List.getD_eq_getElem?_getD, List.getElem?_eq_none (show P.length ≤ q + j by omega)]
  · rw [if_neg (by omega), List.getElem?_drop, List.getElem?_replicate, if_neg (by omega)]
    simp [List.getElem?_eq_none (show (List.range m).length ≤ j by simp; omega)]

end Go.Proofs.YtnkkaggepokjeaaDoor
end

section
/- Package geyserref04: Zero, Split. -/
namespace Go.Proofs.YtnkkaggepokjeaaDoor
open Go.RowKit Go.Extern.Stop Go.Stop Go.Extern

theorem fill_piece {P : List Nat} {m k t : Nat} (h : t = m ∨ P.length ≤ k * m + t) : fillTo (fun j => P.getD (k * m + j) 0) 0 m t = pieceAt P m k := by
  unfold fillTo pieceAt
  apply List.map_congr_left
  intro j hj
  have hj' := List.mem_range.1 hj
  by_cases e : j < t
  · rw [if_pos e]
  · rw [if_neg e, List.getD_eq_getElem?_getD, List.getElem?_eq_none (by omega)]; rfl

end Go.Proofs.YtnkkaggepokjeaaDoor
end

section
/- append of a slice that is only read (nil, empty or not), onto a row of the call's own, as one step of a region that draws. -/
namespace Go.Proofs.YtnkkaggepokjeaaDoor
open Go.RowKit Go.Extern.Stop Go.Stop Go.Extern

theorem run_append_of {P : Program} {α : Type} {f : α → Value} (w : World) (t ty : TypeId) (base : Nat) (e : TypeId) (i : TypeInfo) (z : Value) (bytes : Nat) (ht : P.underlying t = some (.slice e)) (hi : P.info? e = some i) (hz : i.zero = some z)
    (hsize : i.size = 1) (hby : i.bytes = bytes) (hzs : z.cells.size = 1)
    (v : Value) (n : Nat) (xs : List Value) (hown : w.ownsRow base e 1 v n xs)
    (src : Value) (l : List α) (hl : ListAt f w src l) (h1 : ∀ y ∈ l, (f y).oneCell' = true)
    (h63 : n + l.length ≤ maxLen) (hbytes : (n + l.length) * bytes ≤ 140737488355328) (hbase : base ≤ w.heap.size) :
    ∃ v' w', (Builtin.append_ #[t, t] ty #[v, src]).run P w = .ok v' w' ∧ w'.ownsRow base e 1 v' (n + l.length) (xs ++ l.map f) ∧ w.grownBy w' v.ownBlock := by
  obtain ⟨ad, cap, rfl, hc, hm, hcell⟩ := hl
  by_cases hp : 0 < l.length
  · obtain ⟨b, off, rfl, hcc⟩ := hcell hp
    obtain ⟨v', w', h2, h3, h4, -⟩ := run_append_own (P := P) w base t ty e i z 1 bytes ht hi hz hsize hby hzs (by decide) v n xs hown ⟨b, off, none⟩ l.length cap (l.map f) (by simp)
      (fun j u hu => by
        have hj : j < l.length := by have := (List.getElem?_eq_some_iff.1 hu).1; simpa using this
        rw [Go.WideShapes.add_plain, hcc j hj]
        simp [hj] at hu
        rw [hu]) (fun u hu => by
        obtain ⟨y, hy, rfl⟩ := List.mem_map.1 hu
        exact h1 y hy) h63 hbytes hbase
    exact ⟨v', w', h2, h3, h4⟩
  · have hl0 : l = [] := List.eq_nil_of_length_eq_zero (by omega)
    subst hl0
    cases ad with
    | none => exact ⟨v, w, run_append_none_cap (P := P) (w := w) base t ty e i 1 ht hi v n cap xs hown, by simpa using hown, World.grownBy.refl _ _⟩
    | some ad =>
      obtain ⟨v', w', h2, h3, h4, -⟩ := run_append_own (P := P) w base t ty e i z 1 bytes ht hi hz hsize hby hzs (by decide) v n xs hown ad 0 cap [] (by simp) (fun j u hu => by simp at hu) (fun u hu => by simp at hu) h63 hbytes hbase
      exact ⟨v', w', h2, by simpa using h3, h4⟩

theorem step_append_of {P : Program} {α : Type} {f : α → Value} {w : World} {ops : Array Oper} {o : Oper} {a : Act} {K : Act → World → Prop} {Q : Exit → Act → World → Prop} {E : Prop} (hgd : o.guard = none) (s x : Operand) (t : TypeId)
    (ho : o.op = .call { callee := .builtin .append, args := #[s, x], argTypes := #[t, t] })
    (base : Nat) (e : TypeId) (i : TypeInfo) (z : Value) (bytes : Nat) (ht : P.underlying t = some (.slice e)) (hi : P.info? e = some i) (hz : i.zero = some z)
    (hsize : i.size = 1) (hby : i.bytes = bytes) (hzs : z.cells.size = 1)
    (v : Value) (n : Nat) (xs : List Value) (hs : a.eval s = v) (hown : w.ownsRow base e 1 v n xs)
    (src : Value) (l : List α) (hx : a.eval x = src) (hl : ListAt f w src l) (h1 : ∀ y ∈ l, (f y).oneCell' = true)
    (h63 : n + l.length ≤ maxLen) (hbytes : (n + l.length) * bytes ≤ 140737488355328) (hbase : base ≤ w.heap.size)
    (h : ∀ v' w', w'.ownsRow base e 1 v' (n + l.length) (xs ++ l.map f) → w.grownBy w' v.ownBlock → K (a.put o.dst v') w') :
    if Region.wanted o (yielded ops a.tmps) = true then Oper.wp P o a w K Q else E := by
  have hw : Region.wanted o (yielded ops a.tmps) = true := by simp [Region.wanted, hgd]
  rw [if_pos hw]
  obtain ⟨v', w', hr, h2, h3⟩ := run_append_of (P := P) (f := f) w t o.type base e i z bytes ht hi hz hsize hby hzs v n xs hown src l hl h1 h63 hbytes hbase
  unfold Oper.wp execOp
  simp only [ho, resolve, invoke, builtin, Sem.run_bind, Sem.run_pure, Result.andThen_ok, List.map_toArray, List.map_cons, List.map_nil, hs, hx, hr]
  exact h v' w' h2 h3
end Go.Proofs.YtnkkaggepokjeaaDoor
end

section
/- Package geyserref04: Add, Check, Sum, Picked, Same, Copy. -/
namespace Go.Proofs.YtnkkaggepokjeaaDoor
open Go.RowKit Go.Extern.Stop Go.Stop Go.Extern

set_option maxRecDepth 1000000 in
set_option maxHeartbeats 4000000 in
theorem sAdd_any {w : World} (v1 v2 : Value) (xa xb : List Nat) (n : Nat) (h1 : ListAt byteV w v1 xa) (h2 : ListAt byteV w v2 xb) (hw1 : Octets xa) (hw2 : Octets xb) (e1 : xa.length = n) (e2 : xb.length = n) (hlen : n ≤ 281474976710656) :
    Calls Tryd.prog 68 #[v1, v2] w fun e w' => ∃ v', e = .returned v' ∧ w'.ownsRow w.heap.size 5 1 v' n ((xorW xa xb).map byteV) ∧ Below w.heap.size w w' := by
  obtain ⟨i0, hi, hz0, hz1, hz2⟩ := info_parts info_u8
  obtain ⟨a1, cap1, rfl, hcap1, -, hcell1⟩ := h1.bytes n e1
  obtain ⟨a2, cap2, rfl, hcap2, -, hcell2⟩ := h2.bytes n e2
  have HC1 := Lib.hid hcell1
  have HC2 := Lib.hid hcell2
  have HW1 := Lib.hid hw1
  have HW2 := Lib.hid hw2
  have HE : Hid (xa.length = xb.length) := Lib.hid (by omega)
  have HN := Lib.hid e1
  clear hcell1 hcell2 hw1 hw2 h1 h2 e1 e2
  go_enter Tryd.func68, Tryd.ntmps68
  go_wp2_with (at_make; refine wpList_make_full _ rfl _ _ 39 rfl w.heap.size 5 i0 (.int .u8 0) 1 Tryd.underlying39 hi hz0 hz1 .i64 .i64 _ _ n rfl rfl rfl rfl (by rw [hz2]; omega) (by unfold maxLen; omega) (Nat.le_refl _) ?_; intro w0 hown0 hgrow0; have hb0 := Lib.hid ((Below.refl w.heap.size w).grown hgrow0 (Nat.le_refl _) (fun k hk => by cases hk)); have ho0 := Lib.hid hown0; clear hown0 hgrow0)
  go_loopw [6] (fun i wr => ∃ k : Nat, k ≤ n ∧ i = .int .i64 k ∧ (∃ vs : List Nat, vs.length = n ∧ (∀ j, j < k → vs.getD j 0 = xa.getD j 0 ^^^ xb.getD j 0) ∧ wr.ownsRow w.heap.size 5 1 (.slice (some ⟨w.heap.size, 0, none⟩) n n) n (vs.map byteV)) ∧ Below w.heap.size w wr) (fun i _ => n - (intOf i).toNat)
  case atStart => exact ⟨0, Nat.zero_le _, rfl, ⟨List.replicate n 0, by simp, fun j hj => by omega, by rw [List.map_replicate]; have := ho0.out; rw [Nat.mul_one] at this; exact toList_madeCells_one (.int .u8 0) n ▸ this⟩, hb0.out⟩
  case round =>
    obtain ⟨k, hk, rfl, ⟨vs, hvl, hvs, hown⟩, hbel⟩ := hrel
    have hsz := hbel.size
    by_cases hlt : k < n
    · obtain ⟨b1, off1, rfl, hc1⟩ := HC1.out (by omega)
      obtain ⟨b2, off2, rfl, hc2⟩ := HC2.out (by omega)
      have hx1 := hc1 k hlt
      have hx2 := hc2 k hlt
      have hy1 := (hbel.cell (p := ⟨b1, off1 + k, none⟩) (World.block_lt_of_cell? w _ hx1)).trans hx1
      have hy2 := (hbel.cell (p := ⟨b2, off2 + k, none⟩) (World.block_lt_of_cell? w _ hx2)).trans hx2
      have hxlt := HW1.out.getD k
      have hylt := HW2.out.getD k
      have hy3 : wr.cell? ⟨w.heap.size, k, none⟩ = some (.int .u8 ((vs.getD k 0 : Nat) : Int)) := by
        rw [hown.cellAt k (by omega)]
        simp [List.getD_eq_getElem?_getD, hvl, hlt, byteV]
      have hy4 : wr.frozen? ⟨w.heap.size, k, none⟩ = false := hown.frozenAt k
      have hbx := bits_xor_u8_nat (xa.getD k 0) (xb.getD k 0) hxlt hylt
      have HX : Hid (∀ x y, xa.getD k 0 = x → xb.getD k 0 = y → ∀ j, j < k + 1 → (vs.set k (x ^^^ y)).getD j 0 = xa.getD j 0 ^^^ xb.getD j 0) := Lib.hid fun x y ex ey j hj => by
        rw [getD_set _ _ _ _ _ (by omega)]
        by_cases e : j = k
        · subst e; rw [if_pos rfl, ex, ey]
        · rw [if_neg e]; exact hvs j (by omega)
      have HO := Lib.hid hown
      have HB := Lib.hid hbel
      have HL := Lib.hid hvl
      clear hc1 hc2 hx1 hx2 hown hbel hvs hvl hxlt hylt
      generalize xa.getD k 0 = x at hy1 hbx HX
      generalize xb.getD k 0 = y at hy2 hbx HX
      generalize vs.getD k 0 = z at hy3
      go_wp2_with fail
      go_region
      go_wp2
      go_roundw
      case rel => exact ⟨k + 1, by omega, by go_num, ⟨vs.set k (x ^^^ y), by simpa using HL.out, HX.out x y rfl rfl, by rw [List.map_set]; exact (HO.out.stored k (.int .u8 ((x ^^^ y : Nat) : Int))).1⟩, (HB.out.setCell (p := ⟨w.heap.size, k, none⟩) (Nat.le_refl _) _).drew⟩
      case measure => simp [intOf]; omega
    · have hk' : k = n := by omega
      have HO := Lib.hid hown
      have HB := Lib.hid hbel
      have HV : Hid (vs = xorW xa xb) := Lib.hid (by
        apply ext_getD (by rw [xorW_length HE.out, hvl]; exact HN.out.symm)
        intro j hj
        rw [hvs j (by omega), xorW_getD HE.out])
      clear hown hbel hvs hvl
      go_wp2
      go_ret
      exact ⟨_, rfl, by have := HO.out; rw [HV.out] at this; exact this, HB.out⟩

set_option maxRecDepth 1000000 in
set_option maxHeartbeats 4000000 in
theorem sSum_any {w : World} (v : Value) (L : List (List Nat)) (n : Nat) (h : MatAt byteV w v L) (hl : ∀ r ∈ L, r.length = n) (hw : ∀ r ∈ L, Octets r) (hn : n ≤ 281474976710656) :
    Calls Tryd.prog 41 #[v, .int .i64 (n : Int)] w fun e w' => ∃ v', e = .returned v' ∧ w'.ownsRow w.heap.size 5 1 v' n ((sumS n L).map byteV) ∧ Below w.heap.size w w' := by
  obtain ⟨i0, hi, hz0, hz1, hz2⟩ := info_parts info_u8
  have hlen := h.len
  obtain ⟨a, cap, rfl, hcap, hcm, hcell⟩ := h.opens
  have HC := Lib.hid hcell
  have HL := Lib.hid hl
  have HW := Lib.hid hw
  clear h hcell hl hw
  go_enter Tryd.func41, Tryd.ntmps41
  go_wp2_with (at_make; refine wpList_make_full _ rfl _ _ 39 rfl w.heap.size 5 i0 (.int .u8 0) 1 Tryd.underlying39 hi hz0 hz1 .i64 .i64 _ _ n rfl rfl rfl rfl (by rw [hz2]; omega) (by unfold maxLen; omega) (Nat.le_refl _) ?_; intro w0 hown0 hgrow0; have hb0 := Lib.hid ((Below.refl w.heap.size w).grown hgrow0 (Nat.le_refl _) (fun k hk => by cases hk)); have ho0 := Lib.hid hown0; clear hown0 hgrow0)
  go_loopw [5, 6] (fun o i wr => ∃ k : Nat, k ≤ L.length ∧ i = .int .i64 k ∧ wr.ownsRow w.heap.size 5 1 o n ((sumS n (L.take k)).map byteV) ∧ Below w.heap.size w wr) (fun _ i _ => L.length - (intOf i).toNat)
  case atStart => exact ⟨0, Nat.zero_le _, rfl, by rw [List.take_zero, sumS_nil, List.map_replicate]; have h := ho0.out; rw [Nat.mul_one] at h; exact toList_madeCells_one (.int .u8 0) n ▸ h, hb0.out⟩
  case round =>
    clear hb0 ho0
    obtain ⟨k, hk, rfl, hown, hbel⟩ := hrel
    have hsz := hbel.size
    have HB := Lib.hid hbel
    by_cases hlt : k < L.length
    · obtain ⟨b, off, rfl, hcc⟩ := HC.out (by omega)
      obtain ⟨x, hx, hlx⟩ := hcc k hlt
      have hx1 := (hbel.cell (p := ⟨b, off + k, none⟩) (World.block_lt_of_cell? w _ hx)).trans hx
      have hmem := getD_mem_row hlt
      have hrl := HL.out _ hmem
      have HRL := Lib.hid hrl
      have HRW := Lib.hid (HW.out _ hmem)
      have HS : Hid (sumS n (L.take (k + 1)) = xorW (sumS n (L.take k)) (L.getD k [])) := Lib.hid (by rw [take_succ_row hlt, sumS_snoc hrl])
      have HSO := Lib.hid (sumS_octets (L := L.take k) (fun r hr => HW.out r (List.mem_of_mem_take hr)) n)
      have HSL := Lib.hid (sumS_length n (L.take k))
      have HLX := Lib.hid (hlx.mono hbel)
      have HLO := Lib.hid (ListAt.of_owns hown)
      obtain ⟨ax, cx, rfl, -, -, -⟩ := hlx.bytes n hrl
      obtain ⟨oo, oc, rfl, -, -⟩ := own_open hown
      clear hcc hx hlx hmem hrl hown hbel
      generalize L.getD k [] = r at *
      go_wp2_with fail
      refine (sAdd_any _ _ (sumS n (L.take k)) r n HLO.out HLX.out HSO.out HRW.out HSL.out HRL.out hn).mono ?_
      rintro e w1 ⟨v1, rfl, ho1, hb1⟩
      rw [← HS.out] at ho1
      have HO1 := Lib.hid (ownsRow_base ho1 hsz)
      have HB1 := Lib.hid (HB.out.trans (hb1.mono hsz))
      clear ho1 hb1
      go_wp2
      go_roundw
      case rel => exact ⟨k + 1, by omega, by go_num, HO1.out, HB1.out⟩
      case measure => simp [intOf]; omega
    · have hk' : k = L.length := by omega
      rw [hk', List.take_length] at hown
      have HO := Lib.hid hown
      obtain ⟨oo, oc, rfl, -, -⟩ := own_open hown
      clear hown hbel
      go_wp2
      go_ret
      exact ⟨_, rfl, HO.out, HB.out⟩
end Go.Proofs.YtnkkaggepokjeaaDoor
end

section
/- Package geyserref04: Picked, Same, Copy. -/
namespace Go.Proofs.YtnkkaggepokjeaaDoor
open Go.RowKit Go.Extern.Stop Go.Stop Go.Extern

theorem getD_map_cols (cs : List Nat) (L : List (List Nat)) (k : Nat) (h : k < cs.length) : (cs.map fun c => L.getD c []).take (k + 1) = (cs.map fun c => L.getD c []).take k ++ [L.getD (cs.getD k 0) []] := by
  rw [List.take_add_one, List.getElem?_map, List.getElem?_eq_getElem h, List.getD_eq_getElem?_getD (l := cs), List.getElem?_eq_getElem h]
  rfl

set_option maxRecDepth 1000000 in
set_option maxHeartbeats 4000000 in
theorem sPicked_any {w : World} (vc v : Value) (cs : List Nat) (L : List (List Nat)) (hc : ListAt colV w vc cs) (h : MatAt byteV w v L) (hlt : ∀ c ∈ cs, c < L.length) (hcl : cs.length ≤ 6400000) :
    Calls Tryd.prog 42 #[vc, v] w fun e w' => ∃ v', e = .returned v' ∧ MatOwn byteV 5 w.heap.size 39 w' v' (cs.map fun c => L.getD c []) ∧ Below w.heap.size w w' := by
  obtain ⟨i0, hi0, hz0, hz1, hz2⟩ := info_parts info_sym
  have hlen := h.len
  obtain ⟨a, cap, rfl, hcap, -, hcell⟩ := h.opens
  obtain ⟨ca, cc, rfl, -, -, hccell⟩ := hc
  have HC := Lib.hid hcell
  have HD := Lib.hid hccell
  have HLT := Lib.hid hlt
  clear h hcell hccell hlt
  go_enter Tryd.func42, Tryd.ntmps42
  go_wp2
  go_loopw [5, 6] (fun o i wr => ∃ k : Nat, k ≤ cs.length ∧ i = .int .i64 k ∧ MatOwn byteV 5 w.heap.size 39 wr o ((cs.map fun c => L.getD c []).take k) ∧ Below w.heap.size w wr) (fun _ i _ => cs.length - (intOf i).toNat)
  case atStart => exact ⟨0, Nat.zero_le _, rfl, MatOwn.start w (Nat.le_refl _), (Below.refl _ _).alloc (Nat.le_refl _) _⟩
  case round =>
    obtain ⟨k, hk, rfl, ⟨vs, hown, hel⟩, hbel⟩ := hrel
    have hsz := hbel.size
    have HB := Lib.hid hbel
    have HEL := Lib.hid hel
    have hql : ((cs.map fun c => L.getD c []).take k).length = k := by rw [List.length_take, List.length_map]; omega
    have HQ := Lib.hid hql
    have HO := Lib.hid hown
    rw [hql] at HO
    by_cases hlt : k < cs.length
    · obtain ⟨b2, off2, rfl, hc2⟩ := HD.out (by omega)
      obtain ⟨c, hce⟩ : ∃ c, cs.getD k 0 = c := ⟨_, rfl⟩
      have hcx : cs[k] = c := by rw [← hce]; simp [hlt]
      have hcl2 : c < L.length := HLT.out c (by rw [← hcx]; exact List.getElem_mem hlt)
      have hy := hc2 k hlt
      rw [hcx] at hy
      have hy1 : wr.cell? ⟨b2, off2 + k, none⟩ = some (.int .i64 (c : Int)) := (hbel.cell (p := ⟨b2, off2 + k, none⟩) (World.block_lt_of_cell? w _ hy)).trans hy
      obtain ⟨b, off, rfl, hcc⟩ := HC.out (by omega)
      obtain ⟨x, hx, hlx⟩ := hcc c hcl2
      have hx1 := (hbel.cell (p := ⟨b, off + c, none⟩) (World.block_lt_of_cell? w _ hx)).trans hx
      have HEX : Hid (ElAt byteV 5 w.heap.size wr x (L.getD c [])) := Lib.hid (ElAt.old hlx hbel)
      obtain ⟨ax, cx, rfl, -, -, -⟩ := hlx
      have HS := Lib.hid (getD_map_cols cs L k hlt)
      rw [hce] at HS
      clear hc2 hy hcc hx hown hel hbel hql hce hcx
      generalize (L.getD c []).length = ll at *
      generalize hR1 : (cs.map fun c => L.getD c []).take (k + 1) = R1 at HS
      have HR1 := Lib.hid hR1
      clear hR1
      generalize (cs.map fun c => L.getD c []).take k = R0 at *
      go_wp2_with (at_builtin; refine wpList_append_own _ rfl (.tmp 14) (.tmp 22) 52 rfl w.heap.size 39 i0 (.slice none 0 0) 1 24 Tryd.underlying52 hi0 hz0 hz1 hz2 rfl (by decide) u5 k vs rfl (HO.out.alloc _) ⟨wr.heap.size, 0, none⟩ 1 1 [.slice ax ll cx] rfl rfl (cell_one_new _ _ _) (fun x hx => by simp at hx; subst hx; rfl) (by unfold maxLen; omega) (by omega) (by simp; omega) ?_; intro v2 w2 hown1 hgrow1 _; have hb2 := Lib.hid ((HB.out.alloc hsz _).grown hgrow1 (by simp; omega) (fun k hk => (HO.out.lt k hk).1)); have ho2 : Hid (MatOwn byteV 5 w.heap.size 39 w2 v2 (R0 ++ [L.getD c []])) := Lib.hid (MatOwn.app (by decide) (by rw [HQ.out]; exact HO.out) HEL.out HEX.out (by rw [HQ.out]; exact hown1) hgrow1); clear hown1 hgrow1)
      go_roundw
      case rel => exact ⟨k + 1, by omega, by go_num, by rw [HR1.out, HS.out]; exact ho2.out, hb2.out⟩
      case measure => simp [intOf]; omega
    · have hk' : k = cs.length := by omega
      have HM : Hid (MatOwn byteV 5 w.heap.size 39 wr u5 (cs.map fun c => L.getD c [])) := Lib.hid (by
        have h : MatOwn byteV 5 w.heap.size 39 wr u5 ((cs.map fun c => L.getD c []).take k) := ⟨vs, hown, hel⟩
        rwa [List.take_of_length_le (by rw [List.length_map]; omega)] at h)
      obtain ⟨oo, oc, rfl, -, -⟩ := own_open hown
      clear hown hel hbel
      go_wp2
      go_ret
      exact ⟨_, rfl, HM.out, HB.out⟩

set_option maxRecDepth 1000000 in
set_option maxHeartbeats 4000000 in
theorem sSame_any {w : World} (v1 v2 : Value) (L : List (List Nat)) (h1 : MatAt byteV w v1 L) (h2 : MatAt byteV w v2 L) :
    Calls Tryd.prog 25 #[v1, v2] w fun e w' => e = .returned (.bool true) ∧ Below w.heap.size w w' := by
  have hlen := h1.len
  obtain ⟨a1, cap1, rfl, hcap1, -, hcell1⟩ := h1.opens
  obtain ⟨a2, cap2, rfl, hcap2, -, hcell2⟩ := h2.opens
  have HC1 := Lib.hid hcell1
  have HC2 := Lib.hid hcell2
  clear hcell1 hcell2 h1 h2
  go_enter Tryd.func25, Tryd.ntmps25
  go_wp2
  go_loopw [5] (fun i wr => ∃ k : Nat, k ≤ L.length ∧ i = .int .i64 k ∧ Below w.heap.size w wr) (fun i _ => L.length - (intOf i).toNat)
  case atStart => exact ⟨0, Nat.zero_le _, rfl, Below.refl _ _⟩
  case round =>
    obtain ⟨k, hk, rfl, hbel⟩ := hrel
    have HB := Lib.hid hbel
    by_cases hlt : k < L.length
    · obtain ⟨b1, off1, rfl, hc1⟩ := HC1.out (by omega)
      obtain ⟨b2, off2, rfl, hc2⟩ := HC2.out (by omega)
      obtain ⟨x1, hx1, hl1⟩ := hc1 k hlt
      obtain ⟨x2, hx2, hl2⟩ := hc2 k hlt
      have hy1 : wr.cell? ⟨b1, off1 + k, none⟩ = some x1 := (hbel.cell (p := ⟨b1, off1 + k, none⟩) (World.block_lt_of_cell? w _ hx1)).trans hx1
      have hy2 : wr.cell? ⟨b2, off2 + k, none⟩ = some x2 := (hbel.cell (p := ⟨b2, off2 + k, none⟩) (World.block_lt_of_cell? w _ hx2)).trans hx2
      have hk1 : ∀ nd, (convert 39 9 x1).run Tryd.prog (wr.drewN nd) = .ok (.string (strN (L.getD k []))) (wr.drewN nd) := fun nd => ((hl1.mono hbel).mono (below_draws (Below.refl _ _) nd)).str
      have hk2 : ∀ nd, (convert 39 9 x2).run Tryd.prog (wr.drewN nd) = .ok (.string (strN (L.getD k []))) (wr.drewN nd) := fun nd => ((hl2.mono hbel).mono (below_draws (Below.refl _ _) nd)).str
      obtain ⟨xa1, xc1, rfl, -, -, -⟩ := hl1
      obtain ⟨xa2, xc2, rfl, -, -, -⟩ := hl2
      clear hbel hc1 hc2 hx1 hx2
      generalize strN (L.getD k []) = str at *
      generalize (L.getD k []).length = ll at *
      go_wp2
      go_quiet (fail)
      go_wp2
      go_roundw
      case rel => exact ⟨k + 1, by omega, by go_num, below_draws HB.out _⟩
      case measure => simp [intOf]; omega
    · clear hbel
      go_wp2
      go_ret
      exact ⟨rfl, HB.out⟩
end Go.Proofs.YtnkkaggepokjeaaDoor
end

section
/- The fifth layer's laws: (True).sym. -/
namespace Go.Proofs.YtnkkaggepokjeaaDoor
open Go.RowKit Go.Extern.Stop Go.Stop Go.Extern

/-- Symbols of one size. -/
def SizeOk (S : List (List Nat)) (size : Nat) : Prop := ∀ r ∈ S, r.length = size ∧ Octets r

/-- The sum that a row has. -/
def symOf (S : List (List Nat)) (size x : Nat) : List Nat := sumS size ((colsOf [x]).map fun c => S.getD c [])

theorem cols_lt {x m : Nat} (h : x < 2 ^ m) : ∀ c ∈ colsOf [x], c < m := fun c hc => by
  have h1 := mem_colsOf.1 hc
  apply Nat.lt_of_not_le
  intro hle
  unfold bitW at h1
  by_cases e : c / 64 = 0
  · rw [e] at h1
    have e2 : c % 64 = c := by omega
    rw [e2] at h1
    have := Nat.testBit_lt_two_pow (Nat.lt_of_lt_of_le h (Nat.pow_le_pow_right (n := 2) (by decide) hle))
    simp at h1
    rw [h1] at this
    cases this
  · rw [List.getD_eq_getElem?_getD, List.getElem?_eq_none (by simp; omega)] at h1
    simp at h1

set_option maxRecDepth 1000000 in
set_option maxHeartbeats 4000000 in
theorem sym5 {w : World} (size : Nat) (u1 u2 : Value) (S : List (List Nat)) (x : Nat) (hS : MatAt byteV w u1 S) (hok : SizeOk S size) (hm : S.length ≤ 12) (hx : x < 2 ^ S.length) (hsz : size ≤ 4) :
    Calls Tryd.prog 21 #[.agg #[.int .i64 (size : Int), u1, u2], .int .u64 (x : Int)] w fun e w' => ∃ v', e = .returned v' ∧ w'.ownsRow w.heap.size 5 1 v' size ((symOf S size x).map byteV) ∧ Below w.heap.size w w' := by
  have hx64 : x < 18446744073709551616 := by
    have := Nat.pow_le_pow_right (n := 2) (by decide) (show S.length ≤ 64 by omega)
    omega
  obtain ⟨w0, hw0, hb0, h0, h1⟩ : ∃ w0, w0 = w.alloc (.cells #[.int .i64 (size : Int), u1, u2] 54) ∧ Below w.heap.size w w0 ∧ w0.cell? ⟨w.heap.size, 0, none⟩ = some (.int .i64 (size : Int)) ∧ w0.cell? ⟨w.heap.size, 1, none⟩ = some u1 :=
    ⟨_, rfl, (Below.refl _ _).alloc (Nat.le_refl _) _, cell_of_heap (heap_alloc_new w _) rfl, cell_of_heap (heap_alloc_new w _) rfl⟩
  have hlt0 : w.heap.size < w0.heap.size := World.block_lt_of_cell? w0 _ h0
  have hbl : Below w0.heap.size w0 (w0.alloc (.cells #[.int .u64 (x : Int)] 47)).drew := ((Below.refl _ _).alloc (Nat.le_refl _) _).drew
  have hz0 := (hbl.cell (p := ⟨w.heap.size, 0, none⟩) hlt0).trans h0
  have hz1 := (hbl.cell (p := ⟨w.heap.size, 1, none⟩) hlt0).trans h1
  have HBA := Lib.hid (hb0.trans (hbl.mono hb0.size))
  have HL : Hid (ListAt wordV (w0.alloc (.cells #[.int .u64 (x : Int)] 47)).drew (.slice (some ⟨w0.heap.size, 0, none⟩) 1 1) [x]) := Lib.hid ((lit_words w0 [x] 1 rfl (by decide)).mono (Below.refl _ _).drew)
  have HW0 := Lib.hid hw0
  have HS := Lib.hid hS
  have HX : Hid (Word [x]) := Lib.hid fun z hz => by simp at hz; omega
  have HCL := Lib.hid (cols_lt hx)
  have HCN : Hid ((colsOf [x]).length ≤ 6400000) := Lib.hid (Nat.le_trans (colsOf_length_le _) (by simp))
  have HPL : Hid (∀ r ∈ (colsOf [x]).map fun c => S.getD c [], r.length = size) := Lib.hid fun r hr => by
    obtain ⟨c, hc, rfl⟩ := List.mem_map.1 hr
    exact (hok _ (getD_mem_row (cols_lt hx c hc))).1
  have HPO : Hid (∀ r ∈ (colsOf [x]).map fun c => S.getD c [], Octets r) := Lib.hid fun r hr => by
    obtain ⟨c, hc, rfl⟩ := List.mem_map.1 hr
    exact (hok _ (getD_mem_row (cols_lt hx c hc))).2
  have HSY : Hid (∀ v' : Value, ∀ w' : World, w'.ownsRow w.heap.size 5 1 v' size ((sumS size ((colsOf [x]).map fun c => S.getD c [])).map byteV) → w'.ownsRow w.heap.size 5 1 v' size ((symOf S size x).map byteV)) := Lib.hid fun _ _ h => h
  obtain ⟨au, cu, rfl, -, -, -⟩ := hS.opens
  clear hw0 hb0 hS hok hm hx hbl
  generalize symOf S size x = sy at *
  generalize hpk : ((colsOf [x]).map fun c => S.getD c []) = pk at *
  have HPK := Lib.hid hpk
  clear hpk
  go_enter Tryd.func21, Tryd.ntmps21
  go_wp2_with fail
  rw [← HW0.out]
  go_region_law (first
    | (go_simp; go_at_call 43; refine (refUnpack_any _ [x] HL.out HX.out (by simp)).mono ?_; rintro e wA ⟨vA, rfl, hcA, hbA⟩; have HCA := Lib.hid hcA; have HBB := Lib.hid (HBA.out.trans (hbA.mono HBA.out.size)); have hsA := HBA.out.size; have hyA0 := (hbA.cell (p := ⟨w.heap.size, 0, none⟩) (World.block_lt_of_cell? _ _ hz0)).trans hz0; have hyA1 := (hbA.cell (p := ⟨w.heap.size, 1, none⟩) (World.block_lt_of_cell? _ _ hz1)).trans hz1; clear hcA hbA)
    | (go_simp; go_at_call 42; refine (sPicked_any _ _ _ S HCA.out (HS.out.mono HBB.out) HCL.out HCN.out).mono ?_; rintro e wB ⟨vB, rfl, hoB, hbB⟩; rw [HPK.out] at hoB; have HMB := Lib.hid hoB.at; have hyB0 := (hbB.cell (p := ⟨w.heap.size, 0, none⟩) (World.block_lt_of_cell? _ _ hyA0)).trans hyA0; have HBC := Lib.hid (HBB.out.trans (hbB.mono HBB.out.size)); clear hoB hbB)
    | (go_simp; go_at_call 41; refine (sSum_any _ pk size HMB.out HPL.out HPO.out (by omega)).mono ?_; rintro e wC ⟨vC, rfl, hoC, hbC⟩; have HOC := Lib.hid (HSY.out vC wC (ownsRow_base hoC HBC.out.size)); have HBD := Lib.hid (HBC.out.trans (hbC.mono HBC.out.size)); clear hoC hbC))
  all_goals
    go_wp2
    go_ret
    exact ⟨_, rfl, HOC.out, HBD.out⟩
end Go.Proofs.YtnkkaggepokjeaaDoor
end
