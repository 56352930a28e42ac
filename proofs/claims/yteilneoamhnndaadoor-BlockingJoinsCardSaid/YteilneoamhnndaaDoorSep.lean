/- Rows of bytes of a call's own: each in memory of its own (SymsAt), each in a block of its own (SepAt, SepIn: none beyond a bound); the document's Copy gives such ones; writes into them; sums of rows; rows cut or filled up (was in Law11F, Law11C, Law11N). -/
import Derived.Test.YteilneoamhnndaaDoorSyMath
import Derived.Test.YteilneoamhnndaaDoorOwn
import Derived.Test.YteilneoamhnndaaDoorSyA
import Derived.Test.YteilneoamhnndaaDoorSyRef3
import Derived.Test.YteilneoamhnndaaDoorJ3
namespace Go.Proofs.YteilneoamhnndaaDoor
open Go.RowKit Go.Extern.Stop Go.Stop Go.Extern

/-- Symbols of the call's own, a row each. -/
def SymsAt (w : World) (B : Nat) (v : Value) (S : List (List Nat)) : Prop :=
  ∃ vs : List Value, w.ownsRow B 39 1 v S.length vs ∧ ∀ i, i < S.length → w.ownsRow B 5 1 (vs.getD i nilS) (S.getD i []).length ((S.getD i []).map byteV)

section
variable {w w' : World} {B : Nat} {v : Value} {S : List (List Nat)}
theorem SymsAt.nil (w : World) (B : Nat) : SymsAt w B nilS [] := ⟨[], World.ownsRow_nil _ _ _ _, fun i hi => by simp at hi⟩
theorem SymsAt.same (h : SymsAt w B v S) (hs : ∀ (g : Nat) (e : TypeId) (cur : Array Value), e = 39 ∨ e = 5 → w.heap[g]? = some (Obj.cells cur e (0, 0)) → w'.heap[g]? = w.heap[g]?) : SymsAt w' B v S := by
  obtain ⟨vs, h1, h2⟩ := h
  exact ⟨vs, own_same h1 fun g cur hg => hs g _ cur (.inl rfl) hg, fun i hi => own_same (h2 i hi) fun g cur hg => hs g _ cur (.inr rfl) hg⟩
theorem SymsAt.mono (h : SymsAt w B v S) (hb : Below w.heap.size w w') : SymsAt w' B v S := h.same fun g _ _ _ hg => hb.block g (Array.getElem?_eq_some_iff.1 hg).1
theorem SymsAt.at (h : SymsAt w B v S) : MatAt byteV w v S := by
  obtain ⟨vs, h1, h2⟩ := h
  have hl : vs.length = S.length := by have := h1.1; omega
  refine ⟨vs, ListAt.of_owns (n := S.length) (by rw [List.map_id]; exact h1), hl, fun i => ?_⟩
  by_cases hi : i < S.length
  · exact ListAt.of_owns (h2 i hi)
  · rw [List.getD_eq_getElem?_getD, List.getElem?_eq_none (by omega), List.getD_eq_getElem?_getD, List.getElem?_eq_none (by omega)]
    exact ListAt.nil _ _
theorem own_grown_ne {e e' : TypeId} {v v' : Value} {k n B' : Nat} {xs xs' : List Value} (h : w.ownsRow B e 1 v' k xs) (ho : w.ownsRow B' e' 1 v n xs') (hg : w.grownBy w' v.ownBlock) (hne : e ≠ e') : w'.ownsRow B e 1 v' k xs :=
  own_same h fun g cur hgg => hg.block g (Array.getElem?_eq_some_iff.1 hgg).1 fun eq => by
    rcases ho.2 with ⟨rfl, _⟩ | ⟨g', cap, cur', rfl, _, hg', _⟩
    · simp [Value.ownBlock] at eq
    · have : g = g' := by simpa [Value.ownBlock] using eq
      rw [this, hg'] at hgg
      simp at hgg
      exact hne hgg.2.symm
theorem SymsAt.snoc {v' x : Value} {r : List Nat} {vs : List Value} (h1 : w.ownsRow B 39 1 v S.length vs) (h2 : ∀ i, i < S.length → w.ownsRow B 5 1 (vs.getD i nilS) (S.getD i []).length ((S.getD i []).map byteV)) (hx : w.ownsRow B 5 1 x r.length (r.map byteV))
    (ho : w'.ownsRow B 39 1 v' (S.length + 1) (vs ++ [x])) (hg : w.grownBy w' v.ownBlock) : SymsAt w' B v' (S ++ [r]) := by
  have hl : vs.length = S.length := by have := h1.1; omega
  refine ⟨vs ++ [x], by rw [List.length_append]; exact ho, fun i hi => ?_⟩
  rw [getD_snoc, getD_snoc, hl]
  by_cases e : i < S.length
  · rw [if_pos e, if_pos e]; exact own_grown_ne (h2 i e) h1 hg (by decide)
  · have e2 : i = S.length := by rw [List.length_append, List.length_singleton] at hi; omega
    rw [if_neg e, if_neg e, if_pos e2, if_pos e2]
    exact own_grown_ne hx h1 hg (by decide)
end

theorem SymsAt.grown {w w' : World} {B B' n : Nat} {v x : Value} {S : List (List Nat)} {e' : TypeId} {xs : List Value} (h : SymsAt w B v S) (ho : w.ownsRow B' e' 1 x n xs) (hg : w.grownBy w' x.ownBlock) (hne : e' ≠ 39 ∧ e' ≠ 5) : SymsAt w' B v S := by
  obtain ⟨vs, h1, h2⟩ := h
  exact ⟨vs, own_grown_ne h1 ho hg (fun e => hne.1 e.symm), fun i hi => own_grown_ne (h2 i hi) ho hg (fun e => hne.2 e.symm)⟩

theorem SymsAt.base {w : World} {B B' : Nat} {v : Value} {S : List (List Nat)} (h : SymsAt w B v S) (hb : B' ≤ B) : SymsAt w B' v S := by
  obtain ⟨vs, h1, h2⟩ := h
  exact ⟨vs, ownsRow_base h1 hb, fun i hi => ownsRow_base (h2 i hi) hb⟩
/-- A row, cut or filled up. -/
def padRow (r : List Nat) (size : Nat) : List Nat := r.take size ++ List.replicate (size - r.length) 0
theorem padRow_length (r : List Nat) (size : Nat) : (padRow r size).length = size := by unfold padRow; simp; omega
theorem padRow_octets {r : List Nat} {size : Nat} (h : Octets r) : Octets (padRow r size) := fun x hx => by
  rcases List.mem_append.1 hx with h1 | h1
  · exact h x (List.mem_of_mem_take h1)
  · have := (List.mem_replicate.1 h1).2; omega
theorem padRow_splice (r : List Nat) (size : Nat) : splice ((List.replicate size 0).map byteV) 0 ((r.take size).map byteV) = (padRow r size).map byteV := by
  unfold splice padRow
  rw [List.take_zero, List.nil_append, Nat.zero_add, List.length_map, List.length_take, List.map_append, ← List.map_drop, List.drop_replicate]
  congr 3
  omega

def SizeOk (S : List (List Nat)) (size : Nat) : Prop := ∀ r ∈ S, r.length = size ∧ Octets r
theorem SizeOk.snoc {S : List (List Nat)} {size : Nat} {r : List Nat} (h : SizeOk S size) (hr : r.length = size ∧ Octets r) : SizeOk (S ++ [r]) size := fun x hx => by
  rcases List.mem_append.1 hx with h1 | h1
  · exact h x h1
  · rw [List.mem_singleton.1 h1]; exact hr

theorem sizeOk_set {Y : List (List Nat)} {size i k y : Nat} (h : SizeOk Y size) (hi : i < Y.length) (hy : y < 256) : SizeOk (Y.set i ((Y.getD i []).set k y)) size := fun r hr => by
  rcases List.mem_or_eq_of_mem_set hr with hr | rfl
  · exact h r hr
  · have hm := h (Y.getD i []) (getD_mem_row hi)
    exact ⟨by rw [List.length_set]; exact hm.1, hm.2.set k y hy⟩

def SepAt (w : World) (B : Nat) (v : Value) (L : List (List Nat)) : Prop :=
  ∃ vs : List Value, w.ownsRow B 39 1 v L.length vs ∧ (∀ i, i < L.length → w.ownsRow B 5 1 (vs.getD i nilS) (L.getD i []).length ((L.getD i []).map byteV)) ∧
    ∀ i j, i < j → j < L.length → ∀ a b, (vs.getD i nilS).ownBlock = some a → (vs.getD j nilS).ownBlock = some b → a < b
section
variable {w w' : World} {B : Nat} {v : Value} {L : List (List Nat)}
theorem SepAt.start (w : World) (hb : B ≤ w.heap.size) : SepAt (w.alloc (.cells #[] 39)) B (.slice (some ⟨w.heap.size, 0, none⟩) 0 0) [] :=
  ⟨[], World.ownsRow_made (base := B) (e := 39) (size := 1) w #[] 0 hb (by decide) rfl, (fun i hi => by simp at hi), fun i j _ hj => by simp at hj⟩
theorem SepAt.syms (h : SepAt w B v L) : SymsAt w B v L := by
  obtain ⟨vs, h1, h2, -⟩ := h
  exact ⟨vs, h1, h2⟩
theorem SepAt.at (h : SepAt w B v L) : MatAt byteV w v L := h.syms.at
theorem SepAt.mono (h : SepAt w B v L) (hb : Below w.heap.size w w') : SepAt w' B v L := by
  obtain ⟨vs, h1, h2, h3⟩ := h
  exact ⟨vs, owns_kept h1 hb, fun i hi => owns_kept (h2 i hi) hb, h3⟩
theorem SepAt.snoc {v' x : Value} {r : List Nat} {vs : List Value} (h1 : w.ownsRow B 39 1 v L.length vs) (h2 : ∀ i, i < L.length → w.ownsRow B 5 1 (vs.getD i nilS) (L.getD i []).length ((L.getD i []).map byteV))
    (h3 : ∀ i j, i < j → j < L.length → ∀ a b, (vs.getD i nilS).ownBlock = some a → (vs.getD j nilS).ownBlock = some b → a < b) (hx : w.ownsRow B 5 1 x r.length (r.map byteV)) (hxb : ∀ i, i < L.length → ∀ a b, (vs.getD i nilS).ownBlock = some a → x.ownBlock = some b → a < b)
    (ho : w'.ownsRow B 39 1 v' (L.length + 1) (vs ++ [x])) (hg : w.grownBy w' v.ownBlock) : SepAt w' B v' (L ++ [r]) := by
  have hl : vs.length = L.length := by have := h1.1; omega
  refine ⟨vs ++ [x], by rw [List.length_append]; exact ho, fun i hi => ?_, fun i j hij hj a b ha hb => ?_⟩
  · rw [getD_snoc, getD_snoc, hl]
    by_cases e : i < L.length
    · rw [if_pos e, if_pos e]; exact own_grown_ne (h2 i e) h1 hg (by decide)
    · have e2 : i = L.length := by rw [List.length_append, List.length_singleton] at hi; omega
      rw [if_neg e, if_neg e, if_pos e2, if_pos e2]
      exact own_grown_ne hx h1 hg (by decide)
  · rw [List.length_append, List.length_singleton] at hj
    rw [getD_snoc, hl, if_pos (by omega)] at ha
    rw [getD_snoc, hl] at hb
    by_cases e : j < L.length
    · rw [if_pos e] at hb
      exact h3 i j hij e a b ha hb
    · rw [if_neg e, if_pos (by omega)] at hb
      exact hxb i (by omega) a b ha hb
end
/-- The same, no row's block beyond U. -/
def SepIn (w : World) (B U : Nat) (v : Value) (L : List (List Nat)) : Prop :=
  ∃ vs : List Value, w.ownsRow B 39 1 v L.length vs ∧ (∀ i, i < L.length → w.ownsRow B 5 1 (vs.getD i nilS) (L.getD i []).length ((L.getD i []).map byteV)) ∧
    (∀ i j, i < j → j < L.length → ∀ a b, (vs.getD i nilS).ownBlock = some a → (vs.getD j nilS).ownBlock = some b → a < b) ∧ ∀ i, i < L.length → ∀ a, (vs.getD i nilS).ownBlock = some a → a < U
section
variable {w w' : World} {B U : Nat} {v : Value} {L : List (List Nat)}
theorem SepAt.inside (h : SepAt w B v L) : SepIn w B w.heap.size v L := by
  obtain ⟨vs, h1, h2, h3⟩ := h
  exact ⟨vs, h1, h2, h3, fun i hi a ha => ((h2 i hi).lt a ha).2⟩
theorem SepIn.sep (h : SepIn w B U v L) : SepAt w B v L := by
  obtain ⟨vs, h1, h2, h3, -⟩ := h
  exact ⟨vs, h1, h2, h3⟩
theorem SepIn.mono (h : SepIn w B U v L) (hb : Below w.heap.size w w') : SepIn w' B U v L := by
  obtain ⟨vs, h1, h2, h3, h4⟩ := h
  exact ⟨vs, owns_kept h1 hb, fun i hi => owns_kept (h2 i hi) hb, h3, h4⟩
/-- A row of it, opened. -/
theorem SepIn.row (h : SepIn w B U v L) {i : Nat} (hi : i < L.length) (hp : 0 < (L.getD i []).length) : ∃ ga ca g c, v = .slice (some ⟨ga, 0, none⟩) L.length ca ∧ B ≤ ga ∧ w.cell? ⟨ga, i, none⟩ = some (.slice (some ⟨g, 0, none⟩) (L.getD i []).length c) ∧ B ≤ g ∧ g < U ∧
    (∀ k, k < (L.getD i []).length → w.cell? ⟨g, k, none⟩ = some (.int .u8 (((L.getD i []).getD k 0 : Nat) : Int))) ∧ (∀ k, w.frozen? ⟨g, k, none⟩ = false) ∧
    ∀ k y, k < (L.getD i []).length → SepIn (w.setCell ⟨g, k, none⟩ (.int .u8 (y : Nat))) B U v (L.set i ((L.getD i []).set k y)) := by
  obtain ⟨vs, h1, h2, h3, h5⟩ := h
  have hl : vs.length = L.length := by have := h1.1; omega
  obtain ⟨ao, ca, hv, -, hsome⟩ := own_open h1
  obtain ⟨ga, rfl⟩ := hsome (by omega)
  subst hv
  have hr := h2 i hi
  obtain ⟨ar, c, hv2, -, hsome2⟩ := own_open hr
  obtain ⟨g, rfl⟩ := hsome2 hp
  have hga := h1.lt ga rfl
  have hgr := hr.lt g (by rw [hv2]; rfl)
  have hgU := h5 i hi g (by rw [hv2]; rfl)
  have hc := h1.cellAt i (by omega)
  have hvi : vs[i]? = some (vs.getD i nilS) := by
    rw [List.getD_eq_getElem?_getD, List.getElem?_eq_getElem (by omega)]
    rfl
  rw [hvi, hv2] at hc
  have hr' := hr
  rw [hv2] at hr'
  obtain ⟨cur, hcur⟩ : ∃ cur, w.heap[g]? = some (.cells cur 5 (0, 0)) := by
    rcases hr'.2 with ⟨e, _⟩ | ⟨g', cap, cur, e, _, hh, _⟩
    · cases e
    · obtain rfl : g = g' := by simpa [Value.ownBlock] using congrArg Value.ownBlock e
      exact ⟨cur, hh⟩
  refine ⟨ga, ca, g, c, rfl, hga.1, hc, hgr.1, hgU, fun k hk => ?_, fun k => hr'.frozenAt k, fun k y hk => ?_⟩
  · have key : ∀ (R : List Nat) (t : Nat), t < R.length → (R.map byteV)[t]? = some (.int .u8 ((R.getD t 0 : Nat) : Int)) := fun R t ht => by
      simp [List.getD_eq_getElem?_getD, ht, byteV]
    rw [hr'.cellAt k (by omega)]
    exact key _ k hk
  · refine ⟨vs, by rw [List.length_set]; exact own_set h1 hcur (by decide) k _, fun j hj => ?_, fun a b hab hb => h3 a b hab (by rwa [List.length_set] at hb), fun a ha => h5 a (by rwa [List.length_set] at ha)⟩
    rw [List.length_set] at hj
    rw [getD_set _ _ _ _ _ hi]
    by_cases e : j = i
    · subst e
      rw [if_pos rfl, hv2, List.length_set, List.map_set]
      exact (hr'.stored k (.int .u8 (y : Nat))).1
    · rw [if_neg e]
      have hne : (vs.getD j nilS).ownBlock ≠ some g := fun hb => by
        rcases Nat.lt_or_gt_of_ne e with h | h
        · have := h3 j i h hi g g hb (by rw [hv2]; rfl)
          omega
        · have := h3 i j h hj g g (by rw [hv2]; rfl) hb
          omega
      have hrj := h2 j hj
      refine ⟨hrj.1, ?_⟩
      rcases hrj.2 with h4 | ⟨g', cap, cur', h4, h8, h6, h7⟩
      · exact .inl h4
      · refine .inr ⟨g', cap, cur', h4, h8, ?_, h7⟩
        rw [Below.heap_setCell _ _ _ _ (fun e2 => hne (by rw [h4]; exact congrArg some e2))]
        exact h6
end
set_option maxRecDepth 1000000 in
set_option maxHeartbeats 4000000 in
theorem sCopy_sep {w : World} (v : Value) (L : List (List Nat)) (h : MatAt byteV w v L) (hL : L.length ≤ 1000) (hR : ∀ r ∈ L, r.length ≤ 1000) :
    Calls Tryd.prog 18 #[v] w fun e w' => ∃ v', e = .returned v' ∧ SepAt w' w.heap.size v' L ∧ Below w.heap.size w w' := by
  obtain ⟨i0, hi0, hz0, hz1, hz2⟩ := info_parts info_sym
  obtain ⟨j0, hj0, jz0, jz1, jz2⟩ := info_parts info_u8
  have HR : Hid (∀ k, (L.getD k []).length ≤ 1000) := Lib.hid fun k => by
    by_cases hk : k < L.length
    · exact hR _ (getD_mem_row hk)
    · rw [List.getD_eq_getElem?_getD, List.getElem?_eq_none (by omega)]; simp
  obtain ⟨a, cap, rfl, hcap, -, hcell⟩ := h.opens
  have HC := Lib.hid hcell
  clear h hcell hR
  go_enter Tryd.func18, Tryd.ntmps18
  go_wp2
  go_loopw [3, 4] (fun o i wr => ∃ k : Nat, k ≤ L.length ∧ i = .int .i64 k ∧ SepAt wr w.heap.size o (L.take k) ∧ Below w.heap.size w wr) (fun _ i _ => L.length - (intOf i).toNat)
  case atStart => exact ⟨0, Nat.zero_le _, rfl, SepAt.start w (Nat.le_refl _), (Below.refl _ _).alloc (Nat.le_refl _) _⟩
  case round =>
    obtain ⟨wo, hwo⟩ : ∃ wo, wo = wr := ⟨_, rfl⟩
    subst hwo
    obtain ⟨k, hk, rfl, ⟨vs, hown, hel, hsp⟩, hbel⟩ := hrel
    have hsz := hbel.size
    have HB := Lib.hid hbel
    have HEL := Lib.hid hel
    have HSP := Lib.hid hsp
    have hql : (L.take k).length = k := by rw [List.length_take]; omega
    have HQ := Lib.hid hql
    have HO := Lib.hid hown
    rw [hql] at HO
    by_cases hlt : k < L.length
    · obtain ⟨b, off, rfl, hcc⟩ := HC.out (by omega)
      obtain ⟨x, hx, hlx⟩ := hcc k hlt
      have hx1 := (hbel.cell (p := ⟨b, off + k, none⟩) (World.block_lt_of_cell? w _ hx)).trans hx
      have hrl := HR.out k
      have HBp := Lib.hid ((Below.refl wo.heap.size wo).alloc (Nat.le_refl _) (.cells #[] 5))
      have HOp := Lib.hid (World.ownsRow_made (base := wo.heap.size) (e := 5) (size := 1) wo #[] 0 (Nat.le_refl _) (by decide) rfl)
      have hx2 : (wo.alloc (.cells #[] 5)).cell? ⟨b, off + k, none⟩ = some x := (HBp.out.cell (p := ⟨b, off + k, none⟩) (World.block_lt_of_cell? wo _ hx1)).trans hx1
      have HLX := Lib.hid ((hlx.mono hbel).mono HBp.out)
      have HS := Lib.hid (take_succ_row hlt)
      have HVB : Hid (∀ i, i < (L.take k).length → ∀ a, (vs.getD i nilS).ownBlock = some a → a < wo.heap.size) := Lib.hid fun i hi a ha => ((hel i hi).lt a ha).2
      obtain ⟨ax, cx, rfl, -, -, -⟩ := hlx
      clear hcc hx hown hel hsp hbel hql
      generalize L.getD k [] = r at *
      generalize hr : r.length = ll at *
      have HRL := Lib.hid hr
      clear hr
      go_wp2_with (first
        | (at_builtin; refine wpList_append_of (f := byteV) _ rfl (.tmp 13) (.tmp 17) 39 rfl wo.heap.size 5 j0 (.int .u8 0) 1 Tryd.underlying39 hj0 jz0 jz1 jz2 rfl _ 0 [] rfl HOp.out _ r rfl HLX.out (fun y _ => rfl) (by rw [HRL.out]; unfold maxLen; omega) (by rw [HRL.out]; omega) (by simp) ?_; intro op wA hownA hgrowA; have HBA := Lib.hid (HBp.out.grown hgrowA (by simp) (fun k hk => (HOp.out.lt k hk).1)); rw [HRL.out, Nat.zero_add, List.nil_append] at hownA; have HOA := Lib.hid hownA; obtain ⟨oa, oc, rfl, -, -⟩ := own_open hownA; clear hownA hgrowA)
        | (at_builtin; refine wpList_append_own _ rfl (.tmp 12) (.tmp 19) 46 rfl w.heap.size 39 i0 (.slice none 0 0) 1 24 Tryd.underlying46 hi0 hz0 hz1 hz2 rfl (by decide) u3 k vs rfl ((owns_kept HO.out HBA.out).alloc _) ⟨wA.heap.size, 0, none⟩ 1 1 [.slice oa ll oc] rfl rfl (cell_one_new _ _ _) (fun x hx => by simp at hx; subst hx; rfl) (by unfold maxLen; omega) (by omega) (by have := HBA.out.size; simp; omega) ?_; intro v3 w3 hown1 hgrow1 _; have hb3 := Lib.hid (((HB.out.trans (HBA.out.mono hsz)).alloc (Nat.le_trans hsz HBA.out.size) _).grown hgrow1 (by have := HBA.out.size; simp; omega) (fun k hk => (HO.out.lt k hk).1)); have ho3 : Hid (SepAt w3 w.heap.size v3 (L.take k ++ [r])) := Lib.hid (SepAt.snoc (x := .slice oa ll oc) (by rw [HQ.out]; exact (owns_kept HO.out HBA.out).alloc _) (fun i hi => (owns_kept (HEL.out i hi) HBA.out).alloc _) HSP.out (by rw [HRL.out]; exact ownsRow_base (HOA.out.alloc _) hsz) (fun i hi a b ha hb => Nat.lt_of_lt_of_le (HVB.out i hi a ha) (HOA.out.lt b hb).1) (by rw [HQ.out]; exact hown1) hgrow1); clear hown1 hgrow1))
      go_roundw
      case rel => exact ⟨k + 1, by omega, by go_num, by rw [HS.out]; exact ho3.out, hb3.out⟩
      case measure => simp [intOf]; omega
    · have hk' : k = L.length := by omega
      have HM : Hid (SepAt wo w.heap.size u3 L) := Lib.hid (by
        have h : SepAt wo w.heap.size u3 (L.take k) := ⟨vs, hown, hel, hsp⟩
        rwa [hk', List.take_length] at h)
      obtain ⟨oo, oc, rfl, -, -⟩ := own_open hown
      clear hown hel hsp hbel
      go_wp2
      go_ret
      exact ⟨_, rfl, HM.out, HB.out⟩
theorem MatAt.rowAt {w : World} {a : Option Addr} {n c : Nat} {L : List (List Nat)} (h : MatAt byteV w (.slice a n c) L) {i : Nat} (hi : i < L.length) : ∃ b off, a = some ⟨b, off, none⟩ ∧ ∃ x, w.cell? ⟨b, off + i, none⟩ = some x ∧ ListAt byteV w x (L.getD i []) := by
  obtain ⟨a', c', he, -, -, hc⟩ := h.opens
  obtain ⟨rfl, -, rfl⟩ : a = a' ∧ n = L.length ∧ c = c' := by simpa using he
  obtain ⟨b, off, rfl, hcc⟩ := hc (by omega)
  obtain ⟨x, h1, h2⟩ := hcc i hi
  exact ⟨b, off, rfl, x, h1, h2⟩
theorem xorW_byte {a b : List Nat} (ha : Octets a) (hb : Octets b) : Octets (xorW a b) := by
  intro x hx
  unfold xorW at hx
  obtain ⟨i, hi, rfl⟩ := List.getElem_of_mem hx
  rw [List.getElem_zipWith]
  exact Nat.xor_lt_two_pow (n := 8) (ha _ (List.getElem_mem _)) (hb _ (List.getElem_mem _))
/-- Sums of rows, row for row. -/
def sumsTo (S Y : List (List Nat)) (j : Nat) : List (List Nat) := (List.range j).map fun t => xorW (S.getD t []) (Y.getD t [])
theorem sumsTo_length (S Y : List (List Nat)) (j : Nat) : (sumsTo S Y j).length = j := by simp [sumsTo]
theorem sumsTo_succ (S Y : List (List Nat)) (j : Nat) : sumsTo S Y (j + 1) = sumsTo S Y j ++ [xorW (S.getD j []) (Y.getD j [])] := by
  unfold sumsTo
  rw [List.range_succ, List.map_append]
  rfl
theorem sumsTo_set {S Y : List (List Nat)} {j : Nat} (h : j < Y.length) (r : List Nat) : sumsTo S (Y.set j r) j = sumsTo S Y j := by
  unfold sumsTo
  refine List.map_congr_left fun t ht => ?_
  have := List.mem_range.1 ht
  rw [getD_set _ _ _ _ _ h, if_neg (by omega)]
theorem sumsTo_getD {S Y : List (List Nat)} {j t : Nat} (h : t < j) : (sumsTo S Y j).getD t [] = xorW (S.getD t []) (Y.getD t []) := by simp [sumsTo, List.getD_eq_getElem?_getD, h]
theorem sumsTo_ok {S Y : List (List Nat)} {j size : Nat} (hS : SizeOk S size) (hY : SizeOk Y size) (h1 : j ≤ S.length) (h2 : j ≤ Y.length) : SizeOk (sumsTo S Y j) size := fun r hr => by
  obtain ⟨t, ht, rfl⟩ := List.mem_map.1 hr
  have := List.mem_range.1 ht
  have a := hS (S.getD t []) (getD_mem_row (by omega))
  have b := hY (Y.getD t []) (getD_mem_row (by omega))
  exact ⟨by rw [xorW_length (by rw [a.1, b.1]), a.1], xorW_byte a.2 b.2⟩
theorem SepIn.same {w w' : World} {B U ga n c : Nat} {L : List (List Nat)} (h : SepIn w B U (.slice (some ⟨ga, 0, none⟩) n c) L) (hga : ga < U) (hs : ∀ g, g < U → g < w.heap.size → w'.heap[g]? = w.heap[g]?) : SepIn w' B U (.slice (some ⟨ga, 0, none⟩) n c) L := by
  obtain ⟨vs, h1, h2, h3, h4⟩ := h
  refine ⟨vs, ⟨h1.1, ?_⟩, fun i hi => ⟨(h2 i hi).1, ?_⟩, h3, h4⟩
  · rcases h1.2 with e | ⟨g, cap, cur, e, k1, k2, k3⟩
    · exact .inl e
    · have : ga = g := by simpa [Value.ownBlock] using congrArg Value.ownBlock e
      subst this
      exact .inr ⟨_, cap, cur, e, k1, by rw [hs _ hga (Array.getElem?_eq_some_iff.1 k2).1]; exact k2, k3⟩
  · rcases (h2 i hi).2 with e | ⟨g, cap, cur, e, k1, k2, k3⟩
    · exact .inl e
    · have hgU := h4 i hi g (by rw [e]; rfl)
      exact .inr ⟨g, cap, cur, e, k1, by rw [hs g hgU (Array.getElem?_eq_some_iff.1 k2).1]; exact k2, k3⟩
theorem SepIn.grown {w w' : World} {B U ga n c : Nat} {L : List (List Nat)} {row : Option Nat} (h : SepIn w B U (.slice (some ⟨ga, 0, none⟩) n c) L) (hga : ga < U) (hg : w.grownBy w' row) (hr : ∀ b, row = some b → U ≤ b) : SepIn w' B U (.slice (some ⟨ga, 0, none⟩) n c) L :=
  h.same hga fun g hgU hlt => hg.block g hlt fun e => by have := hr g e.symm; omega

end Go.Proofs.YteilneoamhnndaaDoor
