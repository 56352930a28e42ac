import Derived.Test.YtkhdjjcflbdegaaGreatDoorG26
import Derived.Test.YtkhdjjcflbdegaaGreatDoorG08
import Derived.Deep.AppendLies
import Derived.Deep.RegionLaw

section
/- Package symbol: Split. -/
namespace Go.Proofs.YtkhdjjcflbdegaaGreatDoor
open Go.RowKit Go.Extern.Stop Go.Stop Go.Extern

theorem ListAt.cutAt {α : Type} {f : α → Value} {w : World} {b off cap : Nat} {l : List α} (h : ListAt f w (.slice (some ⟨b, off, none⟩) l.length cap) l) (c : Nat) (hc : c ≤ l.length) :
    ListAt f w (.slice (some ⟨b, off + c, none⟩) (l.length - c) (cap - c)) (l.drop c) := by
  obtain ⟨a', cap', e, h1, h2, h3⟩ := h
  cases e
  refine ⟨_, cap - c, by rw [List.length_drop], by rw [List.length_drop]; omega, by omega, fun hp => ⟨b, off + c, rfl, fun j hj => ?_⟩⟩
  rw [List.length_drop] at hj hp
  obtain ⟨b', off', e, hcell⟩ := h3 (by omega)
  cases e
  rw [Nat.add_assoc, hcell (c + j) (by omega)]
  simp

theorem ListAt.addr0 {α : Type} {f : α → Value} {w : World} {a a' : Option Addr} {n cap : Nat} {l : List α} (h : ListAt f w (.slice a n cap) l) (h0 : n = 0) : ListAt f w (.slice a' n cap) l := by
  obtain ⟨a1, cap1, e, h1, h2, -⟩ := h
  obtain ⟨rfl, rfl, rfl⟩ : a = a1 ∧ n = l.length ∧ cap = cap1 := by simpa using e
  exact ⟨a', _, rfl, h1, h2, fun hp => by omega⟩

theorem piece_splice (P : List Nat) (m k : Nat) : splice (List.replicate m (byteV 0)) 0 (((P.drop (k * m)).take m).map byteV) = (pieceAt P m k).map byteV := by
  unfold splice pieceAt
  have hcl : (((P.drop (k * m)).take m).map byteV).length = min m (P.length - k * m) := by simp
  rw [List.take_zero, List.nil_append, Nat.zero_add, hcl]
  generalize hq : k * m = q at *
  apply List.ext_getElem?
  intro j
  rw [List.getElem?_append, hcl]
  by_cases hjm : j < m
  · by_cases hj : q + j < P.length
    · rw [if_pos (by omega)]
      simp [hjm, List.getD_eq_getElem?_getD, hj]
    · rw [if_neg (by omega), List.getElem?_drop, List.getElem?_replicate, if_pos (by omega)]
      simp [hjm, List.getD_eq_getElem?_getD, List.getElem?_eq_none (show P.length ≤ q + j by omega)]
  · rw [if_neg (by omega), List.getElem?_drop, List.getElem?_replicate, if_neg (by omega)]
    simp [List.getElem?_eq_none (show (List.range m).length ≤ j by simp; omega)]

end Go.Proofs.YtkhdjjcflbdegaaGreatDoor
end

section
/- Package geyserref04: Zero, Split. -/
namespace Go.Proofs.YtkhdjjcflbdegaaGreatDoor
open Go.RowKit Go.Extern.Stop Go.Stop Go.Extern

set_option maxRecDepth 1000000 in
theorem refZero_any {w : World} (v : Value) (l : List Nat) (h : ListAt byteV w v l) :
    Calls Tryz.prog 78 #[v] w fun e w' => e = .returned (.bool (zeroB l)) ∧ w = w' := by
  have hlen := h.len
  obtain ⟨a, cap, rfl, hcap, hcm, hcell⟩ := h.bytes l.length rfl
  have HC := Lib.hid hcell
  clear h hcell
  go_enter Tryz.func78, Tryz.ntmps78
  go_wp2
  go_loopw [3] (fun i wr => ∃ k : Nat, k ≤ l.length ∧ i = .int .i64 k ∧ (∀ j, j < k → l.getD j 0 = 0) ∧ w = wr) (fun i _ => l.length - (intOf i).toNat)
  case atStart => exact ⟨0, Nat.zero_le _, rfl, fun j hj => by omega, rfl⟩
  case round =>
    obtain ⟨k, hk, rfl, hz, rfl⟩ := hrel
    by_cases hlt : k < l.length
    · obtain ⟨b, off, rfl, hcc⟩ := HC.out (by omega)
      have hx := hcc k hlt
      have HT : Hid (l.getD k 0 = 0 → ∀ j, j < k + 1 → l.getD j 0 = 0) := Lib.hid fun h j hj => by
        by_cases e : j = k
        · rw [e]; exact h
        · exact hz j (by omega)
      have HF : Hid (l.getD k 0 ≠ 0 → zeroB l = false) := Lib.hid fun h => by
        unfold zeroB
        rw [List.all_eq_false]
        refine ⟨l[k], List.getElem_mem hlt, ?_⟩
        simpa [List.getD_eq_getElem?_getD, hlt] using h
      clear hcc hz
      generalize l.getD k 0 = x at *
      by_cases hx0 : x = 0
      · have hb : ((x : Int) != 0) = false := by simp [hx0]
        have hb2 : ((x : Int) == 0) = true := by simp [hx0]
        have HT' := Lib.hid (HT.out hx0)
        clear HF HT hx0
        go_wp2
        go_roundw
        case rel => exact ⟨k + 1, by omega, by go_num, HT'.out, trivial⟩
        case measure => simp [intOf]; omega
      · have hb : ((x : Int) != 0) = true := by simp; omega
        have hb2 : ((x : Int) == 0) = false := by simp; omega
        have HF' := Lib.hid (HF.out hx0)
        clear HF HT hx0
        go_wp2
        go_ret
        exact ⟨by rw [HF'.out]; rfl, rfl⟩
    · have hk' : k = l.length := by omega
      have HF : Hid (zeroB l = true) := Lib.hid (by
        unfold zeroB
        rw [List.all_eq_true]
        intro x hx
        obtain ⟨j, hj, rfl⟩ := List.getElem_of_mem hx
        have := hz j (by omega)
        simpa [List.getD_eq_getElem?_getD, hj] using this)
      clear hz
      go_wp2
      go_ret
      exact ⟨by rw [HF.out]; rfl, rfl⟩

theorem fill_piece {P : List Nat} {m k t : Nat} (h : t = m ∨ P.length ≤ k * m + t) : fillTo (fun j => P.getD (k * m + j) 0) 0 m t = pieceAt P m k := by
  unfold fillTo pieceAt
  apply List.map_congr_left
  intro j hj
  have hj' := List.mem_range.1 hj
  by_cases e : j < t
  · rw [if_pos e]
  · rw [if_neg e, List.getD_eq_getElem?_getD, List.getElem?_eq_none (by omega)]; rfl

end Go.Proofs.YtkhdjjcflbdegaaGreatDoor
end

section
/- append of a slice that is only read (nil, empty or not), onto a row of the call's own, as one step of a region that draws. -/
namespace Go.Proofs.YtkhdjjcflbdegaaGreatDoor
open Go.RowKit Go.Extern.Stop Go.Stop Go.Extern

theorem run_append_of {P : Program} {α : Type} {f : α → Value} (w : World) (t ty : TypeId) (base : Nat) (e : TypeId) (i : TypeInfo) (z : Value) (bytes : Nat) (ht : P.underlying t = some (.slice e)) (hi : P.info? e = some i) (hz : i.zero = some z)
    (hsize : i.size = 1) (hby : i.bytes = bytes) (hzs : z.cells.size = 1)
    (v : Value) (n : Nat) (xs : List Value) (hown : w.ownsRow base e 1 v n xs)
    (src : Value) (l : List α) (hl : ListAt f w src l) (h1 : ∀ y ∈ l, (f y).oneCell' = true)
    (h63 : n + l.length ≤ maxLen) (hbytes : (n + l.length) * bytes ≤ 140737488355328) (hbase : base ≤ w.heap.size) :
    ∃ v' w', (Builtin.append_ #[t, t] ty #[v, src]).run P w = .ok v' w' ∧ w'.ownsRow base e 1 v' (n + l.length) (xs ++ l.map f) ∧ w.grownBy w' v.ownBlock := by
  obtain ⟨ad, cap, rfl, hc, hm, hcell⟩ := hl
  by_cases hp : 0 < l.length
  · obtain ⟨b, off, rfl, hcc⟩ := hcell hp
    obtain ⟨v', w', h2, h3, h4, -⟩ := run_append_own (P := P) w base t ty e i z 1 bytes ht hi hz hsize hby hzs (by decide) v n xs hown ⟨b, off, none⟩ l.length cap (l.map f) (by simp)
      (fun j u hu => by
        have hj : j < l.length := by have := (List.getElem?_eq_some_iff.1 hu).1; simpa using this
        rw [Go.WideShapes.add_plain, hcc j hj]
        simp [hj] at hu
        rw [hu]) (fun u hu => by
        obtain ⟨y, hy, rfl⟩ := List.mem_map.1 hu
        exact h1 y hy) h63 hbytes hbase
    exact ⟨v', w', h2, h3, h4⟩
  · have hl0 : l = [] := List.eq_nil_of_length_eq_zero (by omega)
    subst hl0
    cases ad with
    | none => exact ⟨v, w, run_append_none_cap (P := P) (w := w) base t ty e i 1 ht hi v n cap xs hown, by simpa using hown, World.grownBy.refl _ _⟩
    | some ad =>
      obtain ⟨v', w', h2, h3, h4, -⟩ := run_append_own (P := P) w base t ty e i z 1 bytes ht hi hz hsize hby hzs (by decide) v n xs hown ad 0 cap [] (by simp) (fun j u hu => by simp at hu) (fun u hu => by simp at hu) h63 hbytes hbase
      exact ⟨v', w', h2, by simpa using h3, h4⟩

theorem step_append_of {P : Program} {α : Type} {f : α → Value} {w : World} {ops : Array Oper} {o : Oper} {a : Act} {K : Act → World → Prop} {Q : Exit → Act → World → Prop} {E : Prop} (hgd : o.guard = none) (s x : Operand) (t : TypeId)
    (ho : o.op = .call { callee := .builtin .append, args := #[s, x], argTypes := #[t, t] })
    (base : Nat) (e : TypeId) (i : TypeInfo) (z : Value) (bytes : Nat) (ht : P.underlying t = some (.slice e)) (hi : P.info? e = some i) (hz : i.zero = some z)
    (hsize : i.size = 1) (hby : i.bytes = bytes) (hzs : z.cells.size = 1)
    (v : Value) (n : Nat) (xs : List Value) (hs : a.eval s = v) (hown : w.ownsRow base e 1 v n xs)
    (src : Value) (l : List α) (hx : a.eval x = src) (hl : ListAt f w src l) (h1 : ∀ y ∈ l, (f y).oneCell' = true)
    (h63 : n + l.length ≤ maxLen) (hbytes : (n + l.length) * bytes ≤ 140737488355328) (hbase : base ≤ w.heap.size)
    (h : ∀ v' w', w'.ownsRow base e 1 v' (n + l.length) (xs ++ l.map f) → w.grownBy w' v.ownBlock → K (a.put o.dst v') w') :
    if Region.wanted o (yielded ops a.tmps) = true then Oper.wp P o a w K Q else E := by
  have hw : Region.wanted o (yielded ops a.tmps) = true := by simp [Region.wanted, hgd]
  rw [if_pos hw]
  obtain ⟨v', w', hr, h2, h3⟩ := run_append_of (P := P) (f := f) w t o.type base e i z bytes ht hi hz hsize hby hzs v n xs hown src l hl h1 h63 hbytes hbase
  unfold Oper.wp execOp
  simp only [ho, resolve, invoke, builtin, Sem.run_bind, Sem.run_pure, Result.andThen_ok, List.map_toArray, List.map_cons, List.map_nil, hs, hx, hr]
  exact h v' w' h2 h3
end Go.Proofs.YtkhdjjcflbdegaaGreatDoor
end
