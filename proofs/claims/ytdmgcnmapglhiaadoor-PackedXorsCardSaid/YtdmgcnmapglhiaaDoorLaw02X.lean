/- The walk of the second layer's law PackedXors. -/
import Derived.Test.YtdmgcnmapglhiaaDoorLaw02W
import Derived.Laws.AppendOwnNone
namespace Go.Proofs.YtdmgcnmapglhiaaDoor
open Go.RowKit Go.Extern.Stop Go.Stop Go.Extern

/-! ### append of a slice that is only read, onto a row of the call's own -/
theorem run_append_none_cap {P : Program} {w : World} (base : Nat) (t ty e : TypeId) (i : TypeInfo) (size : Nat) (ht : P.underlying t = some (.slice e)) (hi : P.info? e = some i)
    (v : Value) (n c : Nat) (xs : List Value) (hown : w.ownsRow base e size v n xs) :
    (Builtin.append_ #[t, t] ty #[v, .slice none 0 c]).run P w = .ok v w := by
  rcases hown.2 with ⟨rfl, rfl⟩ | ⟨g, cap, cur, rfl, _, _, hnc, _⟩
  · simp [Builtin.append_, run_underlying ht, sizeOf, typeInfo, hi, Builtin.lenOf, Builtin.firstCells]
  · simp [Builtin.append_, run_underlying ht, sizeOf, typeInfo, hi, Builtin.lenOf, Builtin.firstCells, hnc, storeCells]

theorem wpList_append_list {P : Program} {α : Type} {f : α → Value} (w : World) {ops : Array Oper} {rest : List Oper} {o : Oper} {a : Act} {Q : Exit → Act → World → Prop} (hgd : o.guard = none) (s x : Operand) (t : TypeId)
    (ho : o.op = .call { callee := .builtin .append, args := #[s, x], argTypes := #[t, t] })
    (base : Nat) (e : TypeId) (i : TypeInfo) (z : Value) (bytes : Nat) (ht : P.underlying t = some (.slice e)) (hi : P.info? e = some i) (hz : i.zero = some z)
    (hsize : i.size = 1) (hby : i.bytes = bytes) (hzs : z.cells.size = 1)
    (v : Value) (n : Nat) (xs : List Value) (hs : a.eval s = v) (hown : w.ownsRow base e 1 v n xs)
    (src : Value) (l : List α) (hx : a.eval x = src) (hl : ListAt f w src l) (h1 : ∀ y, (f y).oneCell' = true)
    (h63 : n + l.length ≤ maxLen) (hbytes : (n + l.length) * bytes ≤ 140737488355328) (hbase : base ≤ w.heap.size)
    (h : ∀ v' w', w'.ownsRow base e 1 v' (n + l.length) (xs ++ l.map f) → w.grownBy w' v.ownBlock → wpList P ops Q rest (a.put o.dst v') w') : wpList P ops Q (o :: rest) a w := by
  obtain ⟨ad, cap, rfl, hc, hm, hcell⟩ := hl
  by_cases hp : 0 < l.length
  · obtain ⟨b, off, rfl, hcc⟩ := hcell hp
    refine wpList_append_own w hgd s x t ho base e i z 1 bytes ht hi hz hsize hby hzs (by decide) v n xs hs hown ⟨b, off, none⟩ l.length cap (l.map f) hx (by simp) ?_ ?_ h63 hbytes hbase fun v' w' h2 h3 _ => h v' w' h2 h3
    · intro j u hu
      have hj : j < l.length := by have := (List.getElem?_eq_some_iff.1 hu).1; simpa using this
      rw [Go.WideShapes.add_plain, hcc j hj]
      simp [hj] at hu
      rw [hu]
    · intro u hu
      obtain ⟨y, _, rfl⟩ := List.mem_map.1 hu
      exact h1 y
  · have hl0 : l = [] := List.eq_nil_of_length_eq_zero (by omega)
    subst hl0
    cases ad with
    | none =>
      refine wpList_plain hgd fun K hK => ?_
      have hrun := run_append_none_cap (P := P) (w := w) base t o.type e i 1 ht hi v n cap xs hown
      unfold Oper.wp
      simp [execOp, ho, resolve, invoke, builtin, hs, hx, hrun, Result.andThen]
      exact hK _ _ (h v w (by simpa using hown) (World.grownBy.refl _ _))
    | some ad =>
      exact wpList_append_own w hgd s x t ho base e i z 1 bytes ht hi hz hsize hby hzs (by decide) v n xs hs hown ad 0 cap [] hx (by simp) (fun j u hu => by simp at hu) (fun u hu => by simp at hu) h63 hbytes hbase fun v' w' h2 h3 _ => h v' w' (by simpa using h2) h3

theorem own_open {w : World} {base n : Nat} {e : TypeId} {v : Value} {xs : List Value} (h : w.ownsRow base e 1 v n xs) :
    ∃ ao cap, v = .slice ao n cap ∧ n ≤ cap ∧ (0 < n → ∃ g, ao = some ⟨g, 0, none⟩) := by
  rcases h.2 with ⟨rfl, rfl⟩ | ⟨g, cap, cur, rfl, hb, hg, hc, _⟩
  · exact ⟨none, 0, rfl, Nat.le_refl _, fun h => by omega⟩
  · exact ⟨_, cap, rfl, hc, fun _ => ⟨g, rfl⟩⟩

theorem grown_trans {a b c : World} {row : Option Nat} (h : a.grownBy b row) (k : b.grownBy c row) : a.grownBy c row :=
  ⟨k.os.trans h.os, k.tape.trans h.tape, k.output.trans h.output, Nat.le_trans h.size k.size, fun j hj hr => (k.block j (Nat.lt_of_lt_of_le hj h.size) hr).trans (h.block j hj hr)⟩

theorem Chain.grown {w w' : World} {n : Int} {c : ByteArray} {E : Value} {row : Option Nat} (h : Chain w n [c] E) (hg : w.grownBy w' row) (hr : ∀ b s, w.cell? ⟨b, 0, none⟩ = some (.string s) → some b ≠ row) : Chain w' n [c] E := by
  cases h with
  | wrap b _ E1 l hc he h1 =>
    refine .wrap b c E1 [] (hg.cell hc (hr b _ hc)) (hg.cell he (hr b _ hc)) ?_
    cases h1
    exact .leaf

theorem not_u64 (x : Nat) (hx : x < 18446744073709551616) : bits BinOp.xor IntKind.u64 (if IntKind.u64.signed = true then -1 else IntKind.u64.max) (x : Int) = ((18446744073709551615 ^^^ x : Nat) : Int) := by
  have e : (if IntKind.u64.signed = true then (-1 : Int) else IntKind.u64.max) = ((18446744073709551615 : Nat) : Int) := by decide
  rw [e]
  exact bits_xor_u64_nat _ _ (by decide) hx

theorem chain_kept {w3 wr : World} {ao : Option Addr} {co n B : Nat} {e : TypeId} {ys : List Nat} {c : ByteArray} {E : Value} (hown : w3.ownsRow B e 1 (.slice ao n co) n (ys.map wordV)) (hz : n = 0 → w3 = wr)
    (hg : w3.grownBy wr (Value.slice ao n co).ownBlock) (h : Chain w3 2 [c] E) : Chain wr 2 [c] E := by
  by_cases h0 : n = 0
  · rw [← hz h0]; exact h
  · obtain ⟨ao', co', e', hc', hao⟩ := own_open hown
    cases e'
    obtain ⟨g, rfl⟩ := hao (by omega)
    refine h.grown hg fun b s hs hbg => ?_
    have hb : b = g := by simpa [Value.ownBlock] using hbg
    subst hb
    have hl : ys.length = n := by simpa using hown.1
    rw [hown.cellAt 0 (by omega)] at hs
    have h0l : 0 < ys.length := by omega
    simp [h0l, wordV] at hs

theorem Word.set {ws : List Nat} (h : Word ws) (k x : Nat) (hx : x < 18446744073709551616) : Word (ws.set k x) := by
  intro y hy
  rcases List.mem_or_eq_of_mem_set hy with hy | rfl
  · exact h y hy
  · exact hx

theorem refXor_int {w : World} (v1 v2 : Value) (l m : List Int) (N : Int) (n : Nat) (hN : N = (n : Int)) (hn : n ≤ 6400000) (h1 : ListAt intV w v1 l) (h2 : ListAt intV w v2 m) :
    Calls Tryd.prog 27 #[v1, v2, .int .i64 N] w fun e w' => ∃ v', e = .returned v' ∧ ListAt colV w' v' (symI l m n) ∧ Below w.heap.size w w' := by
  subst hN; exact refXor_any v1 v2 l m n hn h1 h2

theorem mem_cols (l : List Nat) (c : Nat) : (c : Int) ∈ l.map Int.ofNat ↔ c ∈ l := by
  rw [List.mem_map]
  constructor
  · rintro ⟨d, hd, e⟩
    have : d = c := Int.ofNat.inj e
    rwa [this] at hd
  · intro h; exact ⟨c, h, rfl⟩

theorem sym_cols {y1 y2 : List Nat} (h : y1.length = y2.length) : symI ((colsOf y1).map Int.ofNat) ((colsOf y2).map Int.ofNat) (64 * y1.length) = colsOf (xorW y1 y2) := by
  rw [colsOf_xor h]
  unfold symI
  apply List.filter_congr
  intro c _
  rw [decide_eq_decide.2 (mem_cols (colsOf y1) c), decide_eq_decide.2 (mem_cols (colsOf y2) c)]

theorem both_odd {y1 y2 : List Nat} (h : y1.length = y2.length) :
    (((((colsOf y1).map Int.ofNat).filter fun c => decide (c ∈ (colsOf y2).map Int.ofNat)).length : Nat) : Int) % 2 = (((colsOf (andW y1 y2)).length % 2 : Nat) : Int) := by
  rw [List.filter_map, List.length_map]
  have e : ((fun c => decide (c ∈ (colsOf y2).map Int.ofNat)) ∘ Int.ofNat) = fun c => decide (c ∈ colsOf y2) := by
    funext c
    exact decide_eq_decide.2 (mem_cols (colsOf y2) c)
  rw [e, both_length h]
  omega

set_option maxRecDepth 1000000 in
set_option maxHeartbeats 4000000 in
theorem xors2 {w : World} (v1 v2 : Value) (x1 x2 : List Nat) (h1 : ListAt wordV w v1 x1) (h2 : ListAt wordV w v2 x2) (hw1 : Word x1) (hw2 : Word x2) (hT : Tab w) (hg : Laid w) :
    Calls Tryd.prog 5 #[v1, v2] w fun e w' => e = .returned (.bool true) ∧ Below w.heap.size w w' := by
  obtain ⟨i0, hi, hz0, hz1, hz2⟩ := info_parts info_u64
  have HG := Lib.hid hg
  clear hg
  have HT := Lib.hid hT
  have HA1 := Lib.hid h1
  have HA2 := Lib.hid h2
  clear hT h1 h2
  go_enter Tryd.func5, Tryd.ntmps5
  go_wp2_with fail
  refine (cutW_any v1 x1 HA1.out).mono ?_
  rintro e w1 ⟨u1, rfl, hu1, rfl⟩
  have HY1 := Lib.hid hu1
  have HW1 := Lib.hid (hw1.take 20)
  have hl1 := take20 x1
  clear hu1 hw1 HA1
  generalize x1.take 20 = y1 at *
  go_wp2_with fail
  refine (cutW_any v2 x2 HA2.out).mono ?_
  rintro e w1 ⟨u2, rfl, hu2, rfl⟩
  have HY2 := Lib.hid hu2
  have HW2 := Lib.hid (hw2.take 20)
  have hl2 := take20 x2
  clear hu2 hw2 HA2
  generalize x2.take 20 = y2 at *
  obtain ⟨n, hn⟩ : ∃ n, y1.length = n := ⟨_, rfl⟩
  have HN := Lib.hid hn
  rw [hn] at hl1
  have HB0 := Lib.hid ((Below.refl w.heap.size w).alloc (Nat.le_refl _) (.cells #[] 43))
  have HO0 := Lib.hid (World.ownsRow_made (base := w.heap.size) (e := 43) (size := 1) w #[] 0 (Nat.le_refl _) (by decide) rfl)
  have HYA := Lib.hid (HY1.out.mono HB0.out)
  have HY1' := HY1.out
  obtain ⟨a1, c1, rfl, -, -, -⟩ := HY1'.words n hn
  clear HY1'
  go_wp2_with (at_builtin; refine wpList_append_list (f := wordV) _ rfl (.tmp 17) (.tmp 18) 24 rfl w.heap.size 43 i0 (.int .u64 0) 8 Tryd.underlying24 hi hz0 hz1 hz2 rfl _ 0 [] rfl HO0.out _ y1 rfl HYA.out (fun y => rfl) (by rw [hn]; unfold maxLen; omega) (by rw [hn]; omega) (by simp) ?_; intro o w1 hown1 hgrow1; have hb1 := Lib.hid (HB0.out.grown hgrow1 (by simp) (fun k hk => (HO0.out.lt k hk).1)); rw [hn, Nat.zero_add, List.nil_append] at hown1; have ho1 := Lib.hid hown1; clear hown1 hgrow1)
  have HLO := Lib.hid (ListAt.of_owns (f := wordV) ho1.out)
  have hsz1 := hb1.out.size
  by_cases h12 : y1.length = y2.length
  rotate_left
  · have h12n : ¬ n = y2.length := by omega
    have hb : ((n : Int) == (y2.length : Int)) = false := by simp; omega
    have hb2 : ((n : Int) != (y2.length : Int)) = true := by simp; omega
    go_wp2_with fail
    refine (Xor_unlike _ _ y1 y2 HLO.out (HY2.out.mono hb1.out) h12).mono ?_
    rintro e w2 ⟨E1, rfl, hc1, hb2'⟩
    have HC1 := Lib.hid hc1
    have HD2 := Lib.hid hb2'
    have HB2 := Lib.hid (hb1.out.trans (hb2'.mono hb1.out.size))
    clear hb2'
    obtain ⟨eu1, ev1, rfl⟩ := hc1.iface
    clear hc1
    go_wp2_with fail
    refine (Odd_unlike _ _ y1 y2 (HY1.out.mono HB2.out) (HY2.out.mono HB2.out) h12).mono ?_
    rintro e w3 ⟨E2, rfl, hc2, hb3'⟩
    have HC2 := Lib.hid hc2
    have HC1' := Lib.hid (HC1.out.mono hb3')
    have HD3 := Lib.hid hb3'
    have HB3 := Lib.hid (HB2.out.trans (hb3'.mono HB2.out.size))
    clear hb3'
    obtain ⟨eu2, ev2, rfl⟩ := hc2.iface
    clear hc2
    have HO3 := Lib.hid (owns_kept (owns_kept ho1.out HD2.out) HD3.out)
    have hsz3 := HB3.out.size
    obtain ⟨ao, co, rfl, hco, hao⟩ := own_open ho1.out
    have HAO := Lib.hid hao
    have HY2' := HY2.out
    obtain ⟨a2, c2, rfl, -, -, -⟩ := HY2'
    clear hao h12
    go_wp2_with fail
    go_loopw [10] (fun i wr => ∃ k : Nat, k ≤ n ∧ i = .int .i64 k ∧ (∃ ys : List Nat, ys.length = n ∧ Word ys ∧ wr.ownsRow w.heap.size 43 1 (.slice ao n co) n (ys.map wordV)) ∧ (n = 0 → w3 = wr) ∧ w3.grownBy wr (Value.slice ao n co).ownBlock) (fun i _ => n - (intOf i).toNat)
    case atStart => exact ⟨0, Nat.zero_le _, rfl, ⟨y1, HN.out, HW1.out, HO3.out⟩, fun _ => rfl, World.grownBy.refl _ _⟩
    case round =>
      obtain ⟨k, hk, rfl, ⟨ys, hyl, hyw, hown⟩, hz, hgr⟩ := hrel
      by_cases hlt : k < n
      · obtain ⟨g, rfl⟩ := HAO.out (by omega)
        have hy3 : wr.cell? ⟨g, k, none⟩ = some (.int .u64 ((ys.getD k 0 : Nat) : Int)) := by
          rw [hown.cellAt k (by omega)]
          have : k < ys.length := by omega
          simp [List.getD_eq_getElem?_getD, this, wordV]
        have hy4 : wr.frozen? ⟨g, k, none⟩ = false := hown.frozenAt k
        have hxlt := hyw.getD k
        have hbx : bits BinOp.xor IntKind.u64 (if IntKind.u64.signed = true then -1 else IntKind.u64.max) ((ys.getD k 0 : Nat) : Int) = ((18446744073709551615 ^^^ ys.getD k 0 : Nat) : Int) := not_u64 _ hxlt
        have hnlt : 18446744073709551615 ^^^ ys.getD k 0 < 18446744073709551616 := Nat.xor_lt_two_pow (n := 64) (by decide) hxlt
        have HYL := Lib.hid hyl
        have HYW := Lib.hid hyw
        have HO := Lib.hid hown
        have HGR := Lib.hid hgr
        generalize ys.getD k 0 = x at *
        generalize 18446744073709551615 ^^^ x = x' at *
        have HNL := Lib.hid hnlt
        clear hyl hyw hown hgr hxlt hz hnlt
        go_wp2
        go_roundw
        case rel => exact ⟨k + 1, by omega, by go_num, ⟨ys.set k x', by simpa using HYL.out, HYW.out.set k x' HNL.out, by rw [List.map_set]; exact (HO.out.stored k (.int .u64 (x' : Int))).1⟩, fun h => by omega, grown_trans HGR.out (HO.out.stored k (.int .u64 (x' : Int))).2⟩
        case measure => simp [intOf]; omega
      · have HB4 := Lib.hid (HB3.out.grown hgr hsz3 (fun j hj => (HO3.out.lt j hj).1))
        have HK1 := Lib.hid (chain_kept HO3.out hz hgr HC1'.out)
        have HK2 := Lib.hid (chain_kept HO3.out hz hgr HC2.out)
        clear hz hgr hown hyw hyl
        go_wp2_with fail
        refine (tells_some 2 (by decide) _ _ HK1.out (HG.out.mono HB4.out)).mono ?_
        rintro e w5 ⟨rfl, hb5⟩
        have HB5 := Lib.hid (HB4.out.trans (hb5.mono HB4.out.size))
        have HK3 := Lib.hid (HK2.out.mono hb5)
        clear hb5
        go_wp2_with fail
        refine (tells_some 2 (by decide) _ _ HK3.out (HG.out.mono HB5.out)).mono ?_
        rintro e w6 ⟨rfl, hb6⟩
        have HB6 := Lib.hid (HB5.out.trans (hb6.mono HB5.out.size))
        clear hb6
        go_wp2_with fail
        refine (awake2 (HT.out.mono HB6.out)).mono ?_
        rintro e wz ⟨rfl, hbz⟩
        have HBZ := Lib.hid (HB6.out.trans (hbz.mono HB6.out.size))
        clear hbz
        go_wp2
        go_ret
        exact ⟨rfl, HBZ.out⟩
  · have HE := Lib.hid h12
    have hn2 : y2.length = n := by omega
    have HXL := Lib.hid (xorW_length h12)
    go_wp2_with fail
    refine (Xor_like _ _ y1 y2 HLO.out (HY2.out.mono hb1.out) HW1.out HW2.out HE.out (by omega)).mono ?_
    rintro e w2 ⟨z1, m1, rfl, hz1', hb2'⟩
    have HX2 := Lib.hid hz1'
    have HXW := Lib.hid (HW1.out.xor HW2.out)
    have HD2 := Lib.hid hb2'
    have HB2 := Lib.hid (hb1.out.trans (hb2'.mono hb1.out.size))
    clear hb2' hz1'
    go_wp2_with fail
    refine (Odd_like _ _ y1 y2 (HY1.out.mono HB2.out) (HY2.out.mono HB2.out) HW1.out HW2.out HE.out (by omega)).mono ?_
    rintro e w3 ⟨rfl, hb3'⟩
    have HX3 := Lib.hid (owns_kept HX2.out hb3')
    have HD3 := Lib.hid hb3'
    have HB3 := Lib.hid (HB2.out.trans (hb3'.mono HB2.out.size))
    clear hb3'
    have HO3 := Lib.hid (owns_kept (owns_kept ho1.out HD2.out) HD3.out)
    have hsz3 := HB3.out.size
    have HNE : Hid (z1.ownBlock = none ∨ z1.ownBlock ≠ o.ownBlock) := Lib.hid (by
      cases hzb : z1.ownBlock with
      | none => exact .inl rfl
      | some j =>
        right
        intro e
        have h1 := (HX2.out.lt j hzb).1
        have h2 := (ho1.out.lt j e.symm).2
        omega)
    obtain ⟨ao, co, rfl, hco, hao⟩ := own_open ho1.out
    have HAO := Lib.hid hao
    have HY2' := HY2.out
    obtain ⟨a2, c2, rfl, -, -, -⟩ := HY2'.words n hn2
    clear hao HY2' h12 hn2
    go_wp2_with fail
    go_loopw [10] (fun i wr => ∃ k : Nat, k ≤ n ∧ i = .int .i64 k ∧ (∃ ys : List Nat, ys.length = n ∧ Word ys ∧ wr.ownsRow w.heap.size 43 1 (.slice ao n co) n (ys.map wordV)) ∧ (n = 0 → w3 = wr) ∧ w3.grownBy wr (Value.slice ao n co).ownBlock) (fun i _ => n - (intOf i).toNat)
    case atStart => exact ⟨0, Nat.zero_le _, rfl, ⟨y1, HN.out, HW1.out, HO3.out⟩, fun _ => rfl, World.grownBy.refl _ _⟩
    case round =>
      obtain ⟨k, hk, rfl, ⟨ys, hyl, hyw, hown⟩, hz, hgr⟩ := hrel
      by_cases hlt : k < n
      · obtain ⟨g, rfl⟩ := HAO.out (by omega)
        have hy3 : wr.cell? ⟨g, k, none⟩ = some (.int .u64 ((ys.getD k 0 : Nat) : Int)) := by
          rw [hown.cellAt k (by omega)]
          have : k < ys.length := by omega
          simp [List.getD_eq_getElem?_getD, this, wordV]
        have hy4 : wr.frozen? ⟨g, k, none⟩ = false := hown.frozenAt k
        have hxlt := hyw.getD k
        have hbx : bits BinOp.xor IntKind.u64 (if IntKind.u64.signed = true then -1 else IntKind.u64.max) ((ys.getD k 0 : Nat) : Int) = ((18446744073709551615 ^^^ ys.getD k 0 : Nat) : Int) := not_u64 _ hxlt
        have hnlt : 18446744073709551615 ^^^ ys.getD k 0 < 18446744073709551616 := Nat.xor_lt_two_pow (n := 64) (by decide) hxlt
        have HYL := Lib.hid hyl
        have HYW := Lib.hid hyw
        have HO := Lib.hid hown
        have HGR := Lib.hid hgr
        generalize ys.getD k 0 = x at *
        generalize 18446744073709551615 ^^^ x = x' at *
        have HNL := Lib.hid hnlt
        clear hyl hyw hown hgr hxlt hz hnlt
        go_wp2
        go_roundw
        case rel => exact ⟨k + 1, by omega, by go_num, ⟨ys.set k x', by simpa using HYL.out, HYW.out.set k x' HNL.out, by rw [List.map_set]; exact (HO.out.stored k (.int .u64 (x' : Int))).1⟩, fun h => by omega, grown_trans HGR.out (HO.out.stored k (.int .u64 (x' : Int))).2⟩
        case measure => simp [intOf]; omega
      · have HB4 := Lib.hid (HB3.out.grown hgr hsz3 (fun j hj => (HO3.out.lt j hj).1))
        have HX4 := Lib.hid (HX3.out.kept hgr HNE.out)
        have HLX4 := Lib.hid (ListAt.of_owns (f := wordV) HX4.out)
        obtain ⟨ax, cx, rfl, hcx, -⟩ := own_open HX4.out
        have hm1 : m1 = n := by have := HX4.out.1; rw [List.length_map, HXL.out, HN.out] at this; omega
        subst hm1
        clear hz hgr hown hyw hyl
        go_wp2_with fail
        refine (refUnpack_any _ y1 (HY1.out.mono HB4.out) HW1.out (by omega)).mono ?_
        rintro e w5 ⟨l1, rfl, hl1', hb5⟩
        have HL1 := Lib.hid hl1'
        have HD5 := Lib.hid hb5
        have HB5 := Lib.hid (HB4.out.trans (hb5.mono HB4.out.size))
        clear hl1' hb5
        go_wp2_with fail
        refine (refUnpack_any _ y2 (HY2.out.mono HB5.out) HW2.out (by omega)).mono ?_
        rintro e w6 ⟨l2, rfl, hl2', hb6⟩
        have HL2 := Lib.hid hl2'
        have HL1b := Lib.hid (HL1.out.mono hb6)
        have HD6 := Lib.hid hb6
        have HB6 := Lib.hid (HB5.out.trans (hb6.mono HB5.out.size))
        clear hl2' hb6
        go_wp2_with fail
        refine (refUnpack_any _ (xorW y1 y2) ((HLX4.out.mono HD5.out).mono HD6.out) HXW.out (by rw [HXL.out]; omega)).mono ?_
        rintro e w7 ⟨l3, rfl, hl3', hb7⟩
        have HL3 := Lib.hid hl3'
        have HL1c := Lib.hid (HL1b.out.mono hb7)
        have HL2c := Lib.hid (HL2.out.mono hb7)
        have HB7 := Lib.hid (HB6.out.trans (hb7.mono HB6.out.size))
        clear hl3' hb7
        go_wp2_with fail
        refine (refXor_int _ _ _ _ _ (64 * m1) (by omega) (by omega) HL1c.out.cols HL2c.out.cols).mono ?_
        rintro e w8 ⟨l4, rfl, hl4', hb8⟩
        rw [← HN.out, sym_cols HE.out] at hl4'
        have HL4 := Lib.hid hl4'
        have HL3d := Lib.hid (HL3.out.mono hb8)
        have HL1d := Lib.hid (HL1c.out.mono hb8)
        have HL2d := Lib.hid (HL2c.out.mono hb8)
        have HB8 := Lib.hid (HB7.out.trans (hb8.mono HB7.out.size))
        clear hl4' hb8
        go_wp2_with fail
        refine (SameI_any _ _ _ HL3d.out.cols HL4.out.cols).mono ?_
        rintro e w9 ⟨rfl, hb9⟩
        have HL1e := Lib.hid (HL1d.out.mono hb9)
        have HL2e := Lib.hid (HL2d.out.mono hb9)
        have HB9 := Lib.hid (HB8.out.trans (hb9.mono HB8.out.size))
        clear hb9
        go_wp2_with fail
        refine (Both_any _ _ _ _ HL1e.out.cols HL2e.out.cols).mono ?_
        rintro e w10 ⟨rfl, rfl⟩
        have hqle : ((((colsOf y1).map Int.ofNat).filter fun c => decide (c ∈ (colsOf y2).map Int.ofNat)).length) ≤ 1280 := by
          refine Nat.le_trans (List.length_filter_le _ _) ?_
          rw [List.length_map]
          have := colsOf_length_le y1
          have := HN.out
          omega
        have HOD : Hid (oddW y1 y2 = ((((((colsOf y1).map Int.ofNat).filter fun c => decide (c ∈ (colsOf y2).map Int.ofNat)).length : Nat) : Int) % 2 == 1)) := Lib.hid (by
          rw [both_odd HE.out]
          unfold oddW
          have h2 := Nat.mod_two_eq_zero_or_one (colsOf (andW y1 y2)).length
          rcases h2 with h2 | h2 <;> rw [h2] <;> rfl)
        generalize (((colsOf y1).map Int.ofNat).filter fun c => decide (c ∈ (colsOf y2).map Int.ofNat)).length = q at *
        rw [HOD.out]
        clear HOD
        cases hpar : (((q : Int) % 2 == 1) : Bool) with
        | true =>
          go_wp2_with fail
          refine (awake2 (HT.out.mono HB9.out)).mono ?_
          rintro e wz ⟨rfl, hbz⟩
          have HBZ := Lib.hid (HB9.out.trans (hbz.mono HB9.out.size))
          clear hbz
          go_wp2
          go_ret
          exact ⟨rfl, HBZ.out⟩
        | false =>
          go_wp2_with fail
          refine (awake2 (HT.out.mono HB9.out)).mono ?_
          rintro e wz ⟨rfl, hbz⟩
          have HBZ := Lib.hid (HB9.out.trans (hbz.mono HB9.out.size))
          clear hbz
          go_wp2
          go_ret
          exact ⟨rfl, HBZ.out⟩
end Go.Proofs.YtdmgcnmapglhiaaDoor
