import Derived.Deep.MidRow
import Derived.Test.YtkfimdpcadbcpaaGreatDoorA24
import Derived.Test.YtkfimdpcadbcpaaGreatDoorA18
import Derived.Test.YtkfimdpcadbcpaaGreatDoorA01
set_option linter.unusedSimpArgs false
set_option linter.unusedVariables false
set_option maxRecDepth 1000000
set_option maxHeartbeats 8000000
namespace Go.Proofs.YtkfimdpcadbcpaaGreatDoor
section
open Go.RowKit Go.Extern.Stop Go.Stop Go.Extern
def zerosD (n : Nat) : List Value := (List.replicate n [Value.int .i64 0, nilS]).flatten
theorem zBS (n : Nat) : zerosD (n + 1) = .int .i64 0 :: nilS :: zerosD n := rfl
theorem zB9 : ∀ n, (zerosD n).length = n * 2
  | 0 => rfl
  | n + 1 => by rw [zBS, List.length_cons, List.length_cons, zB9 n]; omega
theorem zCP : ∀ n, zerosD n ++ [.int .i64 0, nilS] = zerosD (n + 1)
  | 0 => rfl
  | n + 1 => by rw [zBS n, List.cons_append, List.cons_append, zCP n]; rfl
theorem zGu (n : Nat) : (madeCells #[Value.int .i64 0, nilS] (n * 2)).toList = zerosD n := by
  have : ∀ n, ((List.range (n * 2)).map fun i => (#[Value.int .i64 0, nilS] : Array Value)[i % 2]!) = zerosD n := by
    intro n
    induction n with
    | zero => rfl
    | succ n ih =>
      rw [show (n + 1) * 2 = n * 2 + 1 + 1 by omega, List.range_succ, List.range_succ, List.map_append, List.map_append, ih, ← zCP, List.append_assoc]
      congr 1
      rw [List.map_cons, List.map_cons, show n * 2 % 2 = 0 by omega, show (n * 2 + 1) % 2 = 1 by omega]
      rfl
  rw [← this n]
  simp [madeCells]
def DgsTo (C : Nat) (w : World) (g m : Nat) (l : List (Nat × List Nat)) : Prop :=
  C ≤ g ∧ l.length ≤ m ∧ m ≤ 4096 ∧ ∃ cs, w.heap[g]? = some (.cells (cs ++ zerosD (m - l.length)).toArray 67 (0, 0)) ∧ RecsEl 2 DgElN C w cs l
theorem zI0 {w : World} {base n g : Nat} {e : TypeId} {xs : List Value} (h : w.ownsRow base e 2 (.slice (some ⟨g, 0, none⟩) n n) n xs) : base ≤ g ∧ w.heap[g]? = some (.cells xs.toArray e (0, 0)) := by
  have h1 := h.1
  rcases h.2 with ⟨e1, _⟩ | ⟨g', cap, cur, e1, hb, hg, hc, hm, hs, ht⟩
  · cases e1
  · obtain ⟨rfl, rfl⟩ : g = g' ∧ n = cap := by simpa using e1
    refine ⟨hb, ?_⟩
    rw [hg]
    have : cur.toList = xs := by
      rw [← ht, List.take_of_length_le (by simp; omega)]
    rw [← this]
theorem DgsTo.start {C : Nat} {w : World} {g m : Nat} (hC : C ≤ g) (hm : m ≤ 4096) (h : w.ownsRow g 67 2 (.slice (some ⟨g, 0, none⟩) m m) m (madeCells #[Value.int .i64 0, nilS] (m * 2)).toList) : DgsTo C w g m [] := by
  rw [zGu] at h
  exact ⟨hC, Nat.zero_le _, hm, [], (zI0 h).2, RecsEl.nil _ _⟩
theorem DgsTo.keep {C : Nat} {w w' : World} {g m : Nat} {l : List (Nat × List Nat)} (h : DgsTo C w g m l) (hg : w'.heap[g]? = w.heap[g]?) (hs : ∀ b, b < w.heap.size → (b < C ∨ ∃ t cur, TByte t ∧ w.heap[b]? = some (.cells cur t (0, 0))) → w'.heap[b]? = w.heap[b]?) : DgsTo C w' g m l := by
  obtain ⟨h1, h2, h3, cs, h4, h5⟩ := h
  exact ⟨h1, h2, h3, cs, hg.trans h4, h5.keep zA4 hs⟩
theorem DgsTo.lt {C : Nat} {w : World} {g m : Nat} {l : List (Nat × List Nat)} (h : DgsTo C w g m l) : g < w.heap.size := by
  obtain ⟨-, -, -, cs, h4, -⟩ := h
  exact (Array.getElem?_eq_some_iff.1 h4).1
theorem DgsTo.mono {C : Nat} {w w' : World} {g m : Nat} {l : List (Nat × List Nat)} (h : DgsTo C w g m l) (hb : Below w.heap.size w w') : DgsTo C w' g m l :=
  h.keep (hb.block g h.lt) fun b hl _ => hb.block b hl
theorem DgsTo.other {C : Nat} {w : World} {g m : Nat} {l : List (Nat × List Nat)} (h : DgsTo C w g m l) {b : Nat} {cur : Array Value} {t : TypeId} {z : Nat × Nat} (hb : w.heap[b]? = some (.cells cur t z)) (hC : C ≤ b) (hg : b ≠ g) (ht : t ≠ 5) (j : Nat) (u : Value) : DgsTo C (w.setCell ⟨b, j, none⟩ u) g m l :=
  h.keep (Below.heap_setCell _ _ _ _ (fun e => hg e.symm)) fun x _ hk => Below.heap_setCell _ _ _ _ (by
    show x ≠ b
    rintro rfl
    rcases hk with hk | ⟨t', cur', rfl, hk⟩
    · omega
    · rw [hb] at hk
      simp only [Option.some.injEq, Obj.cells.injEq] at hk
      exact ht hk.2.1)
theorem DgsTo.there {C : Nat} {w : World} {g m : Nat} {l : List (Nat × List Nat)} (h : DgsTo C w g m l) (hl : l.length < m) : w.there g (l.length * 2) 2 := by
  obtain ⟨h1, h2, h3, cs, h4, h5⟩ := h
  intro j hj
  refine ⟨?_, zAb h4⟩
  have hlen : (cs ++ zerosD (m - l.length)).length = m * 2 := by rw [List.length_append, h5.1, zB9]; omega
  rw [zAa (u := (cs ++ zerosD (m - l.length))[l.length * 2 + j]'(by omega)) h4 (by rw [List.getElem?_toArray, List.getElem?_eq_getElem])]
  rfl
theorem DgsTo.put {C : Nat} {w : World} {g m : Nat} {l : List (Nat × List Nat)} (h : DgsTo C w g m l) (hl : l.length < m) {u0 u1 : Value} {x : Nat × List Nat} (hx : DgElN C w [u0, u1] x) : DgsTo C (w.setCells g (l.length * 2) [u0, u1]) g m (l ++ [x]) := by
  obtain ⟨h1, h2, h3, cs, h4, h5⟩ := h
  have hcl : l.length * 2 = cs.length := h5.1.symm
  have hs : w.setCells g (l.length * 2) [u0, u1] = (w.setCell ⟨g, l.length * 2, none⟩ u0).setCell ⟨g, l.length * 2 + 1, none⟩ u1 := rfl
  refine ⟨h1, by rw [List.length_append]; simp; omega, h3, cs ++ [u0, u1], ?_, ?_⟩
  · rw [hs, zAc (zAc h4), hcl]
    obtain ⟨r, hr⟩ : ∃ r, m - l.length = r + 1 := ⟨m - l.length - 1, by omega⟩
    rw [show m - (l ++ [x]).length = r by rw [List.length_append]; simp; omega, hr, zBS]
    simp
  · refine (h5.append (RecsEl.single zA4 hx)).keep zA4 fun b _ hk => ?_
    have hne : b ≠ g := by
      rintro rfl
      rcases hk with hk | ⟨t', cur', rfl, hk⟩
      · omega
      · rw [h4] at hk
        simp at hk
    rw [hs, Below.heap_setCell _ _ _ _ hne, Below.heap_setCell _ _ _ _ hne]
theorem DgsTo.done {C : Nat} {w : World} {g m : Nat} {l : List (Nat × List Nat)} (h : DgsTo C w g m l) (hl : l.length = m) : RecsOwn 2 DgElN C C 67 w (.slice (some ⟨g, 0, none⟩) m m) l := by
  obtain ⟨h1, h2, h3, cs, h4, h5⟩ := h
  rw [hl, Nat.sub_self, show zerosD 0 = [] from rfl, List.append_nil] at h4
  have hc := h5.1
  exact ⟨cs, ⟨by rw [h5.1], .inr ⟨g, m, cs.toArray, by rw [hl], h1, h4, by omega, by unfold maxLen; omega, by simp; omega, by rw [List.take_of_length_le (by simp; omega)]⟩⟩, h5⟩
def sdQ (s : Snd) (t k m : Nat) (j i e : Int) (d : List Nat) : Pkt := ⟨1, s.ses, k, t, burstB s.base s.burst t, syncZ s.base (t + 1) s.g, m, j, i, e, d, 0, 0, 0, 0, 0, 0, 0, 0, 0⟩
structure DatW (w w1 : World) (gn gl m : Nat) (X : World) (p : Pkt) (D : Value) (n : Nat) (l : List (Nat × List Nat)) : Prop where
  below : Below w.heap.size w X
  kept : ∀ x, x < w1.heap.size → x ≠ w.heap.size → X.heap[x]? = w1.heap[x]?
  size : w1.heap.size ≤ X.heap.size
  gp : w.heap.size < w1.heap.size
  gn1 : w1.heap.size ≤ gn
  gl1 : w1.heap.size ≤ gl
  ne : gn ≠ gl
  box : PktBox X w.heap.size p D
  next : X.heap[gn]? = some (.cells #[.int .i64 (n : Int)] 3 (0, 0))
  row : DgsTo w.heap.size X gl m l
section
variable {w w1 : World} {gn gl m : Nat} {X : World} {p : Pkt} {D : Value} {n : Nat} {l : List (Nat × List Nat)}
theorem DatW.place (h : DatW w w1 gn gl m X p D n l) : DatW w w1 gn gl m (X.setCell ⟨gn, 0, none⟩ (.int .i64 ((n + 1 : Nat) : Int))) p D (n + 1) l := by
  have h1 := h.gp
  have h2 := h.gn1
  refine ⟨h.below.setCell (p := ⟨gn, 0, none⟩) (by show w.heap.size ≤ gn; omega) _, fun x hx hne => ?_, by simpa using h.size, h1, h2, h.gl1, h.ne, ?_, zAc h.next, h.row.other h.next (by omega) h.ne (by decide) _ _⟩
  · rw [Below.heap_setCell _ _ _ x (by show x ≠ gn; omega)]; exact h.kept x hx hne
  · unfold PktBox; rw [Below.heap_setCell _ _ _ _ (by show w.heap.size ≠ gn; omega)]; exact h.box
theorem DatW.field (h : DatW w w1 gn gl m X p D n l) (j : Nat) (u : Value) (p' : Pkt) (D' : Value) (he : (pktC p D).setIfInBounds j u = pktC p' D') : DatW w w1 gn gl m (X.setCell ⟨w.heap.size, j, none⟩ u) p' D' n l := by
  have h1 := h.gp
  have h2 := h.gn1
  have h3 := h.gl1
  refine ⟨h.below.setCell (p := ⟨w.heap.size, j, none⟩) (Nat.le_refl _) _, fun x hx hne => ?_, by simpa using h.size, h1, h2, h3, h.ne, h.box.set j u p' D' he, ?_, h.row.other h.box (Nat.le_refl _) (by omega) (by decide) _ _⟩
  · rw [Below.heap_setCell _ _ _ x hne]; exact h.kept x hx hne
  · rw [Below.heap_setCell _ _ _ _ (by show gn ≠ w.heap.size; omega)]; exact h.next
theorem DatW.call {X' : World} (h : DatW w w1 gn gl m X p D n l) (hb : Below X.heap.size X X') : DatW w w1 gn gl m X' p D n l := by
  have h1 := h.gp
  have h2 := h.size
  refine ⟨h.below.trans (hb.mono (by omega)), fun x hx hne => (hb.block x (by omega)).trans (h.kept x hx hne), Nat.le_trans h2 hb.size, h1, h.gn1, h.gl1, h.ne, h.box.mono hb, ?_, h.row.mono hb⟩
  exact (hb.block gn (Array.getElem?_eq_some_iff.1 h.next).1).trans h.next
theorem DatW.put (h : DatW w w1 gn gl m X p D n l) (hl : l.length < m) {u0 u1 : Value} {x : Nat × List Nat} (hx : DgElN w.heap.size X [u0, u1] x) : DatW w w1 gn gl m (X.setCells gl (l.length * 2) [u0, u1]) p D n (l ++ [x]) := by
  have h1 := h.gp
  have h3 := h.gl1
  have hs : X.setCells gl (l.length * 2) [u0, u1] = (X.setCell ⟨gl, l.length * 2, none⟩ u0).setCell ⟨gl, l.length * 2 + 1, none⟩ u1 := rfl
  have ho : ∀ x, x ≠ gl → (X.setCells gl (l.length * 2) [u0, u1]).heap[x]? = X.heap[x]? := fun x hx => by
    rw [hs, Below.heap_setCell _ _ _ x hx, Below.heap_setCell _ _ _ x hx]
  refine ⟨?_, fun x hx hne => (ho x (by omega)).trans (h.kept x hx hne), ?_, h1, h.gn1, h3, h.ne, (ho _ (by omega)).trans h.box, (ho _ h.ne).trans h.next, h.row.put hl hx⟩
  · rw [hs]
    exact (h.below.setCell (p := ⟨gl, l.length * 2, none⟩) (by show w.heap.size ≤ gl; omega) _).setCell (p := ⟨gl, l.length * 2 + 1, none⟩) (by show w.heap.size ≤ gl; omega) _
  · rw [hs]; simpa using h.size
theorem DatW.cell (h : DatW w w1 gn gl m X p D n l) {b j : Nat} {u : Value} (hc : w1.cell? ⟨b, j, none⟩ = some u) (hb : b ≠ w.heap.size) : X.cell? ⟨b, j, none⟩ = some u := by
  rw [World.cell?_of_block (w := w1) (a := ⟨b, j, none⟩) (h.kept b (World.block_lt_of_cell? w1 _ hc) hb)]
  exact hc
end
theorem zD9 {P : Program} {ops : Array Oper} {o : Oper} {a : Act} {w : World} {Q : Exit → Act → World → Prop} {K : Act → World → Prop} {E : Prop} (hw : Region.wanted o (yielded ops a.tmps) = true) (ty : TypeId) (x y : Operand) (ho : o.op = .store ty x y)
    (b off : Nat) (cells : Array Value) (hx : a.eval x = .pointer (some ⟨b, off, none⟩)) (hy : a.eval y = .agg cells)
    (ht : w.there b off cells.size) (hi : (P.info? ty).map (·.size) = some cells.size) (h1 : cells.all (·.oneCell') = true)
    (h : K (a.put o.dst undef) (w.setCells b off cells.toList)) : if Region.wanted o (yielded ops a.tmps) = true then Oper.wp P o a w K Q else E := by
  rw [if_pos hw]; exact wp_store_mid ty x y ho b off cells hx hy ht hi h1 h
theorem zFv {α β γ : Type} (f : α → List β) (g : β → List γ) : ∀ X : List α, (X.flatMap f).flatMap g = X.flatMap fun x => (f x).flatMap g
  | [] => rfl
  | a :: X => by rw [List.flatMap_cons, List.flatMap_append, zFv f g X, List.flatMap_cons]
theorem zJY (S : Snd) (t k : Nat) : layP S t k = datL S t k (esiL S ((rowS S t).flatMap (esiS S k))) := by
  unfold layP
  congr 1
  unfold stpL esiL
  rw [zFv]
end

section
open Go.RowKit Go.Extern.Stop Go.Stop Go.Extern
theorem zGR : (Tryz.prog.info? 67).map (fun i => (i.zero, i.size, i.bytes)) = some (some (.agg #[.int .i64 0, nilS]), 2, 32) := by kernel_rfl
theorem zHQ (hRow : CaRowC) (hEs : StEsisC) (hPut : WrPutC) {w : World} {lo g : Nat} {S : Snd} {L : Value} {t k : Nat} (h : SdBox w g S L t) (he : EncsAt w lo L S) (hS : SndOk S) (ht : t ≤ 1099511627774) (hk : k < S.g) (hT : DgTab w) :
    Calls Tryz.prog 70 #[.pointer (some ⟨g, 0, none⟩), .agg (pktC (layH S t k) nilS)] w fun e w' => ∃ v, e = .returned (.tuple #[v, .nilIface]) ∧ RecsOwn 2 DgElN w.heap.size w.heap.size 67 w' v ((layP S t k).map pgOf) ∧ Below w.heap.size w w' := by
  obtain ⟨i0, hi, hz0, hz1, hz2⟩ := info_parts zGR
  obtain ⟨w0, hw0, hb0, hx0⟩ := zAz w (layH S t k) nilS
  have hsz0 : w0.heap.size = w.heap.size + 1 := by rw [hw0]; exact World.size_alloc _ _
  have HSZ0 := lhd hsz0
  have HW0 := lhd hw0
  have HB0 := lhd hb0
  have HX0 := lhd hx0
  obtain ⟨vs, hol, hvs⟩ := he
  obtain ⟨aL, cL, hvL, -, hgL⟩ := zAe hol
  obtain ⟨gL, rfl⟩ := hgL hS.pl.n1
  subst hvL
  have HSB : Hid (∀ V, Below w.heap.size w V → RsCells V g S (.slice (some ⟨gL, 0, none⟩) S.blocks cL) t) := lhd fun V hV => (h.mono hV).cells
  have HPT : Hid (∀ i, i < S.blocks → ∃ gi, (∀ V, Below w.heap.size w V → V.cell? ⟨gL, i, none⟩ = some (.pointer (some ⟨gi, 0, none⟩))) ∧ ∀ (V : World) (n : Nat), Below w.heap.size w V → n < 65536 →
      Calls Tryz.prog 110 #[.pointer (some ⟨gi, 0, none⟩), .int .i64 (n : Int)] V fun e w' => ∃ v', e = .returned (.tuple #[v', .nilIface]) ∧ w'.ownsRow V.heap.size 5 1 v' S.b ((S.sym i n).map byteV) ∧ Below V.heap.size V w') := lhd fun i hi => by
    obtain ⟨gi, k1, s1, h1, l1, p1, sd1, vm1, V1, M1, e1, e2, e3⟩ := hvs i hi
    refine ⟨gi, fun V hV => ?_, fun V n hV hn => ?_⟩
    · rw [(zAh hol hV).cellAt i (by omega), e1]
      rfl
    · have := zLN (e2.mono hV) n hn (PairsAt.mono hT hV)
      rw [← e3] at this
      exact this
  have HES : Hid (∀ V, Below w.heap.size w V → Calls Tryz.prog 108 #[.pointer (some ⟨g, 0, none⟩), .int .i64 (k : Int)] V fun e w' => ∃ v, e = .returned (.tuple #[v, .nilIface]) ∧ w'.ownsRow V.heap.size 3 1 v ((rowS S t).flatMap (esiS S k)).length (((rowS S t).flatMap (esiS S k)).map cnkV) ∧ Below V.heap.size V w') := lhd fun V hV => zH0 hRow hEs (h.mono hV) hS ht hk
  have HEB : Hid (∀ e ∈ (rowS S t).flatMap (esiS S k), e < S.n) := lhd fun e he' => by
    obtain ⟨x, -, hx⟩ := List.mem_flatMap.1 he'
    exact hS.esi hk hx
  have HLY := lhd (zJY S t k)
  have HMANY : Hid (((rowS S t).flatMap (esiS S k)).length * S.blocks = manyS S t k) := lhd (by rw [zAZ (zBJ S k)]; rfl)
  have hmb := hS.many (t := t) hk
  have HRT : Hid (∀ n i e, n < manyS S t k → i < S.blocks → e < S.n → ckN (sdP S t k (manyS S t k) n i e) = 0 ∧ FitsP (sdP S t k (manyS S t k) n i e)) := lhd fun n i e h1 h2 h3 => ⟨zI8 hS (by omega) hk h1 h2 h3, zKx hS (by omega) hk h1 h2 h3⟩
  obtain ⟨m, hm⟩ : ∃ m, m = manyS S t k := ⟨_, rfl⟩
  have HMY := lhd hm
  rw [← hm] at HMANY hmb HRT
  generalize (rowS S t).flatMap (esiS S k) = E at *
  obtain ⟨el, hel⟩ : ∃ el, el = E.length := ⟨_, rfl⟩
  rw [← hel] at HMANY HES
  have HEL := lhd hel
  have hnb := hS.pl.n1
  have hnb2 := hS.b16
  have hn2 := hS.n2
  have hel1 : 1 ≤ el := by
    rcases Nat.eq_zero_or_pos el with h0 | h0
    · have := HMANY.out; rw [h0, Nat.zero_mul] at this; omega
    · exact h0
  have helb : el ≤ 4096 := Nat.le_trans (Nat.le_mul_of_pos_right el hnb) (by rw [HMANY.out]; exact hmb.2)
  have hmi : (el : Int) * (S.blocks : Int) = (m : Int) := by rw [← HMANY.out]; push_cast; rfl
  have hmb2 : m ≤ 4096 := hmb.2
  unfold pktC layH headP at HW0
  clear hw0 hb0 hx0 hsz0 h hS hm hel hvs hol hgL hT
  go_enter Tryz.func70, Tryz.ntmps70
  unfold pktC layH headP
  go_upto_region 1 with fail
  rw [← HW0.out]
  have c2 : w0.cell? ⟨w.heap.size, 2, none⟩ = some (.int .i64 (k : Int)) := zAa HX0.out rfl
  go_step3
  go_wp2_with fail
  with_reducible refine (HES.out _ HB0.out).mono ?_
  rintro e w1 ⟨vE, rfl, hoE, hb1⟩
  have HB1 := lhd (HB0.out.trans (hb1.mono HB0.out.size))
  have HX1 := lhd (HX0.out.mono hb1)
  have HSZ1 : Hid (w.heap.size < w1.heap.size) := lhd (by have := hb1.size; have := HSZ0.out; omega)
  have HOE := lhd hoE
  obtain ⟨aE, cE, hvE, -, hgE⟩ := zAe hoE
  obtain ⟨gE, rfl⟩ := hgE hel1
  subst hvE
  have HGE : Hid (gE ≠ w.heap.size) := lhd (by have := (hoE.lt gE rfl).1; have := HSZ0.out; omega)
  have HXE : Hid (∀ (j e : Nat), E[j]? = some e → w1.cell? ⟨gE, j, none⟩ = some (.int .i64 (e : Int))) := lhd fun j e hj => by
    have hjl := (List.getElem?_eq_some_iff.1 hj).1
    rw [HOE.out.cellAt j (by rw [HEL.out]; omega), List.getElem?_map, hj]
    rfl
  have c13 := (HSB.out w1 HB1.out).c13
  have c6 : w1.cell? ⟨w.heap.size, 6, none⟩ = some (.int .i64 0) := zAa HX1.out rfl
  have f6 := zAb (j := 6) HX1.out
  clear hoE hb1 hgE c2
  go_upto_region 5 with fail
  obtain ⟨w2, hw2⟩ : ∃ W, W = w1.setCell ⟨w.heap.size, 6, none⟩ (.int .i64 (m : Int)) := ⟨_, rfl⟩
  rw [← hw2]
  have HX2 : Hid (PktBox w2 w.heap.size (sdQ S t k m 0 0 0 []) nilS) := lhd (by rw [hw2]; exact HX1.out.set 6 _ _ _ rfl)
  have HB2 : Hid (Below w.heap.size w w2) := lhd (by rw [hw2]; exact HB1.out.setCell (p := ⟨w.heap.size, 6, none⟩) (Nat.le_refl _) _)
  have HK2 : Hid (∀ x, x < w1.heap.size → x ≠ w.heap.size → w2.heap[x]? = w1.heap[x]?) := lhd fun x _ hx => by rw [hw2]; exact Below.heap_setCell _ _ _ x hx
  have HSZ2 : Hid (w2.heap.size = w1.heap.size) := lhd (by rw [hw2]; simp)
  clear c13 c6 f6 hw2
  go_wp2_with fail
  refine zL2.mono ?_
  rintro e w3 ⟨rfl, hw3⟩
  obtain ⟨gn, hgn⟩ : ∃ gn, gn = w2.heap.size := ⟨_, rfl⟩
  have HN3 : Hid (w3.heap[gn]? = some (.cells #[.int .i64 0] 3 (0, 0))) := lhd (by rw [hw3, hgn]; exact heap_alloc_new _ _)
  have hb3 : Below w2.heap.size w2 w3 := by rw [hw3]; exact (Below.refl _ _).alloc (Nat.le_refl _) _
  have HB3 := lhd (HB2.out.trans (hb3.mono HB2.out.size))
  have HX3 := lhd (HX2.out.mono hb3)
  have HK3 : Hid (∀ x, x < w1.heap.size → x ≠ w.heap.size → w3.heap[x]? = w1.heap[x]?) := lhd fun x hx hne => (hb3.block x (by rw [HSZ2.out]; exact hx)).trans (HK2.out x hx hne)
  have HGN : Hid (w1.heap.size ≤ gn ∧ gn < w3.heap.size) := lhd ⟨by rw [hgn, HSZ2.out]; exact Nat.le_refl _, by rw [hw3, World.size_alloc, hgn]; exact Nat.lt_succ_self _⟩
  have c6 : w3.cell? ⟨w.heap.size, 6, none⟩ = some (.int .i64 (m : Int)) := zAa HX3.out rfl
  unfold placeF
  rw [← hgn]
  clear hw3 hb3 hgn
  go_wp2_with (at_make; refine wpList_make_full _ rfl _ _ 46 rfl w3.heap.size 67 i0 _ 2 Tryz.underlying46 hi hz0 hz1 .i64 .i64 _ _ m rfl rfl rfl rfl (by rw [hz2]; omega) (by unfold maxLen; omega) (Nat.le_refl _) ?_; intro w4 hown0 hgrow0; have HO4 := lhd hown0; have HB34 := lhd ((Below.refl w3.heap.size w3).grown hgrow0 (Nat.le_refl _) (fun k hk => by cases hk)); clear hown0 hgrow0)
  obtain ⟨gl, hgl⟩ : ∃ gl, gl = w3.heap.size := ⟨_, rfl⟩
  rw [← hgl] at HO4 ⊢
  have HD4 : Hid (DatW w w1 gn gl m w4 (sdQ S t k m 0 0 0 []) nilS 0 []) := lhd (by
    have hz1 := HB34.out.size
    have hz3 := HGN.out
    have hz4 := HSZ1.out
    exact ⟨HB3.out.trans (HB34.out.mono HB3.out.size), fun x hx hne => (HB34.out.block x (by omega)).trans (HK3.out x hx hne), by omega, hz4, hz3.1, by omega, by omega, HX3.out.mono HB34.out, (HB34.out.block gn hz3.2).trans HN3.out,
      DgsTo.start (by omega) hmb2 HO4.out⟩)
  have HE0 : Hid (esiL S (E.take 0) = []) := lhd rfl
  clear hgl c6
  go_wp2_with fail
  go_step3
  go_wp2_with fail
  go_loopw [7, 39] (fun er i wr => ∃ j : Nat, j ≤ el ∧ er = .nilIface ∧ i = .int .i64 (j : Int) ∧ ∃ (a b c : Int) (d : List Nat) (D : Value), DatW w w1 gn gl m wr (sdQ S t k m a b c d) D (esiL S (E.take j)).length ((datL S t k (esiL S (E.take j))).map pgOf)) (fun _ i _ => el - (intOf i).toNat)
  case atStart => exact ⟨0, Nat.zero_le _, rfl, rfl, 0, 0, 0, [], nilS, HD4.out⟩
  case round =>
    obtain ⟨j, hj, rfl, rfl, a, b, c, d, D, hdw⟩ := hrel
    have HD := lhd hdw
    by_cases hlt : j < el
    · have d1 : decide ((j : Int) < (el : Int)) = true := decide_eq_true (by omega)
      obtain ⟨e0, hx⟩ : ∃ x, E[j]? = some x := ⟨_, List.getElem?_eq_getElem (by rw [← HEL.out]; exact hlt)⟩
      have hen := HEB.out e0 (List.mem_of_getElem? hx)
      have cx := hdw.cell (HXE.out j e0 hx) HGE.out
      have c13 := (HSB.out wr hdw.below).c13
      have HSX := lhd (zKI S hx)
      have HFL : Hid ((esiL S (E.take j)).length = j * S.blocks) := lhd (by rw [zBP, List.length_take, ← HEL.out, Nat.min_eq_left hj])
      have hjm : (j + 1) * S.blocks ≤ m := by rw [← HMANY.out]; exact Nat.mul_le_mul_right _ hlt
      rw [Nat.succ_mul] at hjm
      obtain ⟨wo, hwo⟩ : ∃ wo, wo = wr := ⟨_, rfl⟩
      subst hwo
      generalize esiL S (E.take j) = F at *
      clear hx hdw
      go_wp2_with fail
      go_loopw [7, 48] (fun er i wr => ∃ i2 : Nat, i2 ≤ S.blocks ∧ er = .nilIface ∧ i = .int .i64 (i2 : Int) ∧ ∃ (a b c : Int) (d : List Nat) (D : Value), DatW w w1 gn gl m wr (sdQ S t k m a b c d) D (F ++ (blkL S e0).take i2).length ((datL S t k (F ++ (blkL S e0).take i2)).map pgOf)) (fun _ i _ => S.blocks - (intOf i).toNat)
      case atStart => exact ⟨0, Nat.zero_le _, rfl, rfl, a, b, c, d, D, by rw [List.take_zero, List.append_nil]; exact HD.out⟩
      case round =>
        obtain ⟨i, hi2, rfl, rfl, a, b, c, d, D, hdw⟩ := hrel
        have HD := lhd hdw
        by_cases hlt2 : i < S.blocks
        · have d2 : decide ((i : Int) < (S.blocks : Int)) = true := decide_eq_true (by omega)
          obtain ⟨gi, hgi, hsy⟩ := HPT.out i hlt2
          have cp := hgi wr hdw.below
          have HSY := lhd fun V => hsy V e0
          have HTK : Hid (F ++ (blkL S e0).take (i + 1) = (F ++ (blkL S e0).take i) ++ [(e0, i)]) := lhd (by rw [zEl (zKz hlt2), List.append_assoc])
          have hnl : (F ++ (blkL S e0).take i).length = j * S.blocks + i := by rw [List.length_append, HFL.out, List.length_take, zBW, Nat.min_eq_left hi2]
          obtain ⟨n, hn⟩ : ∃ n, n = (F ++ (blkL S e0).take i).length := ⟨_, rfl⟩
          have hnm : n < m := by omega
          have HNM := lhd hnm
          have HSNQ : Hid (datL S t k ((F ++ (blkL S e0).take i) ++ [(e0, i)]) = datL S t k (F ++ (blkL S e0).take i) ++ [sdP S t k m n i e0]) := lhd (by rw [zJm, ← hn, ← HMY.out])
          have HLL : Hid (((datL S t k (F ++ (blkL S e0).take i)).map pgOf).length = n) := lhd (by rw [List.length_map, zBO, hn])
          have HLN : Hid (((F ++ (blkL S e0).take i) ++ [(e0, i)]).length = n + 1) := lhd (by rw [List.length_append, hn]; rfl)
          obtain ⟨hck, hfi⟩ := HRT.out n i e0 hnm hlt2 hen
          have HCK := lhd hck
          have HFI := lhd hfi
          rw [← hn] at HD
          generalize F ++ (blkL S e0).take i = FF at *
          obtain ⟨LL, hLL⟩ : ∃ LL, LL = (datL S t k FF).map pgOf := ⟨_, rfl⟩
          rw [← hLL] at HD HLL
          have HLD0 := lhd hLL
          clear hdw hgi hsy hnl hn hck hfi hLL
          go_upto_region 13 with fail
          go_wp2_with fail
          refine (zF4 HD.out.next (by omega)).mono ?_
          rintro e A1 ⟨rfl, hA1⟩
          have HD1 : Hid (DatW w w1 gn gl m A1 (sdQ S t k m a b c d) D (n + 1) LL) := lhd (by rw [hA1]; exact HD.out.place)
          have c7 : A1.cell? ⟨w.heap.size, 7, none⟩ = some (.int .i64 a) := zAa HD1.out.box rfl
          have c8 : A1.cell? ⟨w.heap.size, 8, none⟩ = some (.int .i64 b) := zAa HD1.out.box rfl
          have c9 : A1.cell? ⟨w.heap.size, 9, none⟩ = some (.int .i64 c) := zAa HD1.out.box rfl
          have f7 := zAb (j := 7) HD1.out.box
          have f8 := zAb (j := 8) HD1.out.box
          have f9 := zAb (j := 9) HD1.out.box
          clear hA1 cp cx c13
          go_upto_region 14 with fail
          obtain ⟨A4, hA4⟩ : ∃ W, W = ((A1.setCell ⟨w.heap.size, 7, none⟩ (.int .i64 (n : Int))).setCell ⟨w.heap.size, 8, none⟩ (.int .i64 (i : Int))).setCell ⟨w.heap.size, 9, none⟩ (.int .i64 (e0 : Int)) := ⟨_, rfl⟩
          rw [← hA4]
          have HD4 : Hid (DatW w w1 gn gl m A4 (sdQ S t k m n i e0 d) D (n + 1) LL) := lhd (by rw [hA4]; exact ((HD1.out.field 7 (.int .i64 (n : Int)) (sdQ S t k m n b c d) D rfl).field 8 (.int .i64 (i : Int)) (sdQ S t k m n i c d) D rfl).field 9 (.int .i64 (e0 : Int)) (sdQ S t k m n i e0 d) D rfl)
          clear hA4 c7 c8 c9 f7 f8 f9
          go_wp2_with fail
          with_reducible refine (HSY.out A4 HD4.out.below (by omega)).mono ?_
          rintro e A5 ⟨v5, rfl, ho5, hb5⟩
          have HD5 := lhd (HD4.out.call hb5)
          have HO5 := lhd ho5
          obtain ⟨a5, q5, hv5, -, -⟩ := zAe ho5
          subst hv5
          have c10 : A5.cell? ⟨w.heap.size, 10, none⟩ = some D := zAa HD5.out.box rfl
          have f10 := zAb (j := 10) HD5.out.box
          clear ho5 hb5
          go_upto_region 16 with fail
          obtain ⟨A6, hA6⟩ : ∃ W, W = A5.setCell ⟨w.heap.size, 10, none⟩ (.slice a5 S.b q5) := ⟨_, rfl⟩
          rw [← hA6]
          have HD6 : Hid (DatW w w1 gn gl m A6 (sdP S t k m n i e0) (.slice a5 S.b q5) (n + 1) LL) := lhd (by rw [hA6]; exact HD5.out.field 10 _ (sdP S t k m n i e0) _ rfl)
          have HLD : Hid (ListAt byteV A6 (.slice a5 S.b q5) (sdP S t k m n i e0).data) := lhd (by rw [hA6]; exact ListAt.of_owns (f := byteV) (by have := zAJ HO5.out HD5.out.box (by decide) 10 (.slice a5 S.b q5); exact this))
          have HLA := lhd (zFd hPut (w := A6.drew) (sdP S t k m n i e0) (.slice a5 S.b q5) (HLD.out.mono (Below.refl _ _).drew) HFI.out HCK.out)
          have HP6 : PktBox A6.drew w.heap.size (sdP S t k m n i e0) (.slice a5 S.b q5) := HD6.out.box.mono (Below.refl _ _).drew
          clear hA6 c10 f10
          have HBD6 : Below A6.heap.size A6 A6.drew := (Below.refl _ _).drew
          refine wp_region_held_drew (S := fun V => PktBox V w.heap.size (sdP S t k m n i e0) (.slice a5 S.b q5)) (by kernel_rfl) HP6 (fun _ => ?_)
          (refine wpAnyH_take (i := 0) (v := ?_) rfl (by kernel_rfl) (by kernel_rfl) (by kernel_rfl) (fun _ _ _ h => h) (Or.inl ⟨by rfl, ?_⟩) HP6 ?_; rotate_left; (focus (intro V hV; go_simp; first | done | with_reducible rfl)); (try simp only [nrz, Act.put]); refine wpAnyH_take (i := 1) (v := ?_) rfl (by kernel_rfl) (by kernel_rfl) (by kernel_rfl) (fun _ _ _ h => h) (Or.inl ⟨by rfl, ?_⟩) HP6 ?_; rotate_left; (focus (intro V hV; go_simp; first | done | with_reducible rfl)); (try simp only [nrz, Act.put]); refine wpAnyH_take (i := 2) (v := .int .i64 (n : Int)) rfl (by kernel_rfl) (by kernel_rfl) (by kernel_rfl) (fun _ _ _ h => h) (Or.inl ⟨by rfl, ?_⟩) HP6 ?_; (focus (intro V hV; have c : V.cell? ⟨w.heap.size, 7, none⟩ = some (.int .i64 (n : Int)) := zAa hV rfl; go_simp)); (try simp only [nrz, Act.put]); refine wpAnyH_take (i := 3) (v := .agg (pktC (sdP S t k m n i e0) (.slice a5 S.b q5))) rfl (by kernel_rfl) (by kernel_rfl) (by kernel_rfl) (fun _ _ _ h => h) (Or.inl ⟨by rfl, ?_⟩) HP6 ?_; (focus (intro V hV; exact zEZ 63 (.tmp 3) (by rfl) w.heap.size (by rfl) 63 (0, 0) _ hV Tryz.underlying63 rfl (by kernel_rfl))); (try simp only [nrz, Act.put]); refine wpAnyH_ready (rs := [4]) (by kernel_rfl) (by simp) ?_; refine AllReadyH.cons rfl (fun K hK => ?_) (AllReadyH.nil); go_simp; go_at_call 67; (with_reducible refine HLA.out.mono ?_); rintro e A7 ⟨v7, rfl, ho7, hb7'⟩; have hb7 : Below A6.heap.size A6 A7 := Below.trans HBD6 (hb7'.mono (Below.size HBD6)); have HD7 := lhd (HD6.out.call hb7); have HP7 : PktBox A7 w.heap.size (sdP S t k m n i e0) (.slice a5 S.b q5) := HD7.out.box; have HO7 := lhd ho7; obtain ⟨a7, q7, hv7, -, -⟩ := zAe ho7; subst hv7; clear ho7 hb7 hb7'; refine Shut.out hK _ _ HP7 (fun _ => ?_); clear hK K; (try simp only [nrz, Act.put]); refine wpAnyH_take (i := 5) (v := ?_) rfl (by kernel_rfl) (by kernel_rfl) (by kernel_rfl) (fun _ _ _ h => h) (Or.inl ⟨by rfl, ?_⟩) HP7 ?_; rotate_left; (focus (intro V hV; go_simp; first | done | with_reducible rfl)); (try simp only [nrz, Act.put]); refine wpAnyH_take (i := 6) (v := ?_) rfl (by kernel_rfl) (by kernel_rfl) (by kernel_rfl) (fun _ _ _ h => h) (Or.inl ⟨by rfl, ?_⟩) HP7 ?_; rotate_left; (focus (intro V hV; go_simp; first | done | with_reducible rfl)); (try simp only [nrz, Act.put]); refine wpAnyH_take (i := 7) (v := ?_) rfl (by kernel_rfl) (by kernel_rfl) (by kernel_rfl) (fun _ _ _ h => h) (Or.inl ⟨by rfl, ?_⟩) HP7 ?_; rotate_left; (focus (intro V hV; go_simp; first | done | with_reducible rfl)); (try simp only [nrz, Act.put]); refine wpAnyH_take (i := 8) (v := ?_) rfl (by kernel_rfl) (by kernel_rfl) (by kernel_rfl) (fun _ _ _ h => h) (Or.inl ⟨by rfl, ?_⟩) HP7 ?_; rotate_left; (focus (intro V hV; go_simp; first | done | with_reducible rfl)); (try simp only [nrz, Act.put]); refine wpAnyH_ready (rs := [9]) (by kernel_rfl) (by simp) ?_; refine AllReadyH.cons rfl (fun K hK => ?_) (AllReadyH.nil); refine zD9 (by rfl) 67 (.tmp 77) (.tmp 75) rfl gl (n * 2) #[.int .i64 (k : Int), .slice a7 (putP (sdP S t k m n i e0)).length q7] (by first | rfl | simp [Act.eval]) (by rfl) (by have := HD7.out.row.there (by rw [HLL.out]; exact HNM.out); rw [HLL.out] at this; exact this) (by kernel_rfl) (by simp [Value.oneCell']) ?_; have HD8 := lhd (HD7.out.put (u0 := .int .i64 (k : Int)) (u1 := .slice a7 (putP (sdP S t k m n i e0)).length q7) (x := pgOf (sdP S t k m n i e0)) (by rw [HLL.out]; exact HNM.out) ⟨_, rfl, ElAt.own HO7.out, fun b hb => Nat.le_trans HD6.out.below.size (HO7.out.lt b hb).1⟩); have HP8 := HD8.out.box; rw [HLL.out] at HP8 HD8; refine Shut.out hK _ _ HP8 (fun _ => ?_); clear hK K; (try simp only [nrz, Act.put]); refine wpAnyH_take (i := 10) (v := ?_) rfl (by kernel_rfl) (by kernel_rfl) (by kernel_rfl) (fun _ _ _ h => h) (Or.inl ⟨by rfl, ?_⟩) HP8 ?_; rotate_left; (focus (intro V hV; go_simp; first | done | with_reducible rfl)); (try simp only [nrz, Act.put]))
          all_goals refine wpAnyH_done (by kernel_rfl) ?_ _
          have HD9 := lhd HD8.out
          go_wp2_with fail
          go_roundw
          case rel => exact ⟨i + 1, by omega, rfl, by go_num, n, i, e0, S.sym i e0, _, by rw [HTK.out, HLN.out, HSNQ.out, List.map_append, ← HLD0.out]; exact HD9.out⟩
          case measure => simp [intOf]; omega
        · obtain rfl : i = S.blocks := by omega
          have d2 : decide ((S.blocks : Int) < (S.blocks : Int)) = false := decide_eq_false (by omega)
          have HAL : Hid ((blkL S e0).take S.blocks = blkL S e0) := lhd (List.take_of_length_le (by rw [zBW]; exact Nat.le_refl _))
          rw [HAL.out, ← HSX.out] at HD
          clear hdw
          go_wp2_with fail
          go_roundw
          case rel => exact ⟨j + 1, by omega, rfl, by go_num, a, b, c, d, D, HD.out⟩
          case measure => simp [intOf]; omega
    · obtain rfl : j = el := by omega
      have d1 : decide ((j : Int) < (j : Int)) = false := decide_eq_false (by omega)
      have HAL : Hid (E.take j = E) := lhd (List.take_of_length_le (by rw [← HEL.out]; exact Nat.le_refl _))
      rw [HAL.out] at HD
      clear hdw
      go_wp2_with fail
      try rw [Exit.noGoto_ret]
      go_ret2
      refine ⟨_, rfl, ?_, HD.out.below⟩
      rw [HLY.out]
      exact HD.out.row.done (by rw [List.length_map, zBO, zBP, ← HEL.out, HMANY.out])
end

section
open Go.RowKit Go.Extern.Stop Go.Stop Go.Extern
theorem zHx {w w' : World} {e : TypeId} {v : Value} {k n base : Nat} {xs : List Value} (h : w.ownsRow base e k v n xs) (hs : ∀ (g : Nat) (cur : Array Value), w.heap[g]? = some (Obj.cells cur e (0, 0)) → w'.heap[g]? = w.heap[g]?) : w'.ownsRow base e k v n xs := by
  refine ⟨h.1, ?_⟩
  rcases h.2 with h1 | ⟨g, cap, cur, h1, h2, h3, h4⟩
  · exact .inl h1
  · exact .inr ⟨g, cap, cur, h1, h2, by rw [hs g cur h3]; exact h3, h4⟩
theorem RecsOwn.turned {α : Type} {k : Nat} {T : TypeId → Prop} {El : Nat → World → List Value → α → Prop} (R : RecEl k T El) {C base : Nat} {e : TypeId} {w w' : World} {v : Value} {L : List α} (h : RecsOwn k El C base e w v L)
    (hs : ∀ (g : Nat) (cur : Array Value), w.heap[g]? = some (Obj.cells cur e (0, 0)) → w'.heap[g]? = w.heap[g]?) (hk : ∀ b, b < w.heap.size → (b < C ∨ ∃ t cur, T t ∧ w.heap[b]? = some (.cells cur t (0, 0))) → w'.heap[b]? = w.heap[b]?) : RecsOwn k El C base e w' v L := by
  obtain ⟨cs, h1, h2⟩ := h
  exact ⟨cs, zHx h1 hs, h2.keep R hk⟩
end
end Go.Proofs.YtkfimdpcadbcpaaGreatDoor
