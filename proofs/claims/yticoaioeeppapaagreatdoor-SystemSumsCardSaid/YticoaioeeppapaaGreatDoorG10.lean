import Derived.Test.YticoaioeeppapaaGreatDoorG04
import Derived.Test.YticoaioeeppapaaGreatDoorG05
import Derived.Test.YticoaioeeppapaaGreatDoorG08
import Derived.Test.YticoaioeeppapaaGreatDoorG09
import Derived.Test.YticoaioeeppapaaGreatDoorG02
import Derived.Test.YticoaioeeppapaaGreatDoorG07
import Derived.Deep.LoopGhost
import Derived.WalkMore
import Derived.Laws.CopyOwn

section
/- Mathematics of package system: the rows of a block, by its seed; their rank; the systems of equations that they make, and what these tell. -/
namespace Go.Proofs.YticoaioeeppapaaGreatDoor

/-! ### the rows -/
theorem tr_len {l p st a : Nat} : ∀ n d, d ≤ (trW l p st a n).length → ∃ j, j ≤ n ∧ (trW l p st a j).length = d
  | 0, d, h => ⟨0, Nat.le_refl _, by rw [trW_zero] at h ⊢; simp at h; simp [h]⟩
  | n + 1, d, h => by
    by_cases hd : d ≤ (trW l p st a n).length
    · obtain ⟨j, h1, h2⟩ := tr_len n d hd
      exact ⟨j, by omega, h2⟩
    · refine ⟨n + 1, Nat.le_refl _, ?_⟩
      have : (trW l p st a (n + 1)).length ≤ (trW l p st a n).length + 1 := by
        rw [trW_succ, List.length_append]
        split <;> simp
      omega
theorem tr_ex {l p st a d : Nat} (hp : IsP p) (h1 : 1 ≤ st) (h2 : st < p) (hl : l ≤ p) (hd : d ≤ l) : ∃ W, IsTr l p st a d W := by
  obtain ⟨j, h3, h4⟩ := tr_len (l := l) (p := p) (st := st) (a := a) p d (by rw [trW_all hp h1 h2 hl]; exact hd)
  exact ⟨_, h4, j, h3, rfl⟩
open Classical in
/-- The walk of an encoding symbol, by a seed. -/
noncomputable def walkE (l p seed e : Nat) : List Nat := if h : ∃ W, IsTr l p (trS p (mixN e seed)) (trA p (mixN e seed)) (trD l (mixN e seed)) W then Classical.choose h else []
theorem walkE_eq {l p seed e : Nat} {W : List Nat} (h : IsTr l p (trS p (mixN e seed)) (trA p (mixN e seed)) (trD l (mixN e seed)) W) : walkE l p seed e = W := by
  have hx : ∃ W, IsTr l p (trS p (mixN e seed)) (trA p (mixN e seed)) (trD l (mixN e seed)) W := ⟨W, h⟩
  unfold walkE
  rw [dif_pos hx]
  exact (Classical.choose_spec hx).unique h
theorem walkE_is {k s h l p : Nat} (H : OfP k s h l p) (hk1 : 1 ≤ k) (hk2 : k ≤ 128) (seed e : Nat) : IsTr l p (trS p (mixN e seed)) (trA p (mixN e seed)) (trD l (mixN e seed)) (walkE l p seed e) := by
  obtain ⟨b1, b2, b3, b4, b5, b6, b7⟩ := H.bounds hk1 hk2
  have hp2 : 2 ≤ p := H.2.2.2.two
  have hl1 : 1 ≤ l := by have := H.2.2.1; omega
  obtain ⟨W, hW⟩ := tr_ex (l := l) (p := p) (st := trS p (mixN e seed)) (a := trA p (mixN e seed)) (d := trD l (mixN e seed)) H.2.2.2.1 (trS_bd hp2).1 (trS_bd hp2).2 b6 (trD_bd hl1).2
  rw [walkE_eq hW]
  exact hW
/-- The row of an encoding symbol: its places, rising. -/
noncomputable def rowE (l p seed e : Nat) : List Nat := risN l (walkE l p seed e)
theorem rowE_lt {l p seed e : Nat} : ∀ c ∈ rowE l p seed e, c < l := fun _ hc => (mem_risN.1 hc).1
theorem rowE_nodup (l p seed e : Nat) : (rowE l p seed e).Nodup := risN_nodup _ _
theorem rowE_len (l p seed e : Nat) : (rowE l p seed e).length ≤ l := by
  unfold rowE risN
  exact Nat.le_trans (List.length_filter_le _ _) (by simp)
theorem rowE_vec {k s h l p : Nat} (H : OfP k s h l p) (hk1 : 1 ≤ k) (hk2 : k ≤ 128) (seed e : Nat) : rowVec (rowE l p seed e) = rowVec (walkE l p seed e) := by
  funext c
  unfold rowVec rowE
  rw [decide_eq_decide, mem_risN]
  exact ⟨fun h => h.2, fun h => ⟨(walkE_is H hk1 hk2 seed e).lt h, h⟩⟩
/-- The numbers of the other rows' weight. -/
noncomputable def graysE (k s h : Nat) : List Nat := Classical.choose (gr_ex ((h + 1) / 2) (k + s))
theorem graysE_is (k s h : Nat) : IsGr ((h + 1) / 2) (k + s) (graysE k s h) := Classical.choose_spec (gr_ex ((h + 1) / 2) (k + s))
theorem graysE_eq {k s h : Nat} {g : List Nat} (hg : IsGr ((h + 1) / 2) (k + s) g) : g = graysE k s h := hg.unique (graysE_is k s h)
/-- The rows of the precode. -/
noncomputable def rowsF0 (k s h : Nat) : List (List Nat) := rowsP k s h (graysE k s h)
/-- The rows of a block with some encoding symbols. -/
noncomputable def rowsA (k s h l p seed : Nat) (es : List Nat) : List (List Nat) := rowsF0 k s h ++ es.map (rowE l p seed)
theorem rowsF0_length (k s h : Nat) : (rowsF0 k s h).length = s + h := rowsP_length _ _ _ _
theorem rowsA_length (k s h l p seed : Nat) (es : List Nat) : (rowsA k s h l p seed es).length = s + h + es.length := by
  unfold rowsA
  rw [List.length_append, rowsF0_length, List.length_map]
theorem rowsA_snoc (k s h l p seed : Nat) (es : List Nat) (e : Nat) : rowsA k s h l p seed (es ++ [e]) = rowsA k s h l p seed es ++ [rowE l p seed e] := by
  unfold rowsA
  rw [List.map_append, List.append_assoc]
  rfl
theorem rowsA_nil (k s h l p seed : Nat) : rowsA k s h l p seed [] = rowsF0 k s h := by simp [rowsA]
theorem rowsF0_getD {k s h i : Nat} (hi : i < (rowsF0 k s h).length) : ∀ r, r = (rowsF0 k s h).getD i [] → (∀ c ∈ r, c < k + s + h) ∧ r.Nodup := fun r e => by
  rw [rowsF0_length] at hi
  subst e
  exact ⟨fun c hc => row_lt hi hc, row_nodup hi⟩
theorem rowsF0_in {k s h : Nat} : ∀ r ∈ rowsF0 k s h, (∀ c ∈ r, c < k + s + h) ∧ r.Nodup := fun r hr => by
  obtain ⟨i, hi, rfl⟩ := List.getElem_of_mem hr
  exact rowsF0_getD hi _ (by simp [List.getD_eq_getElem?_getD, hi])
theorem rowsA_in {k s h l p seed : Nat} {es : List Nat} (hl : l = k + s + h) : ∀ r ∈ rowsA k s h l p seed es, (∀ c ∈ r, c < l) ∧ r.Nodup := fun r hr => by
  rcases List.mem_append.1 hr with hr | hr
  · rw [hl]; exact rowsF0_in r hr
  · obtain ⟨e, _, rfl⟩ := List.mem_map.1 hr
    exact ⟨rowE_lt, rowE_nodup _ _ _ _⟩
theorem bitW_packR {n : Nat} {r : List Nat} (hr : ∀ c ∈ r, c < n) : bitW (packR n r) = rowVec r := funext fun c => packR_bit hr c
theorem vecs_packL {n : Nat} {R : List (List Nat)} (h : ∀ r ∈ R, ∀ c ∈ r, c < n) : vecs (packL n R) = R.map rowVec := by
  unfold vecs packL
  rw [List.map_map]
  exact List.map_congr_left fun r hr => bitW_packR (h r hr)
theorem packL_append (n : Nat) (A B : List (List Nat)) : packL n (A ++ B) = packL n A ++ packL n B := by simp [packL]
theorem packL_length (n : Nat) (R : List (List Nat)) : (packL n R).length = R.length := by simp [packL]
theorem packL_getD (n : Nat) (R : List (List Nat)) {i : Nat} (hi : i < R.length) : (packL n R).getD i [] = packR n (R.getD i []) := by
  unfold packL
  simp [List.getD_eq_getElem?_getD, hi]

/-! ### the rank -/
noncomputable def rankA (k s h l p seed : Nat) (es : List Nat) : Nat := rk ((rowsA k s h l p seed es).map rowVec)
theorem rk_snoc_le (A : List Vec) (v : Vec) : rk (A ++ [v]) ≤ rk A + 1 := by
  by_cases h : Sp A v
  · rw [rk_in h]; omega
  · rw [rk_out h]; omega
theorem rk_append_le (A : List Vec) : ∀ B : List Vec, rk (A ++ B) ≤ rk A + B.length := by
  intro B
  induction B generalizing A with
  | nil => simp
  | cons v B ih =>
    have := ih (A ++ [v])
    have h2 := rk_snoc_le A v
    rw [List.append_assoc, List.singleton_append] at this
    rw [List.length_cons]
    omega
theorem rk_cut {A B : List Vec} (h : rk (A ++ B) = (A ++ B).length) : rk A = A.length := by
  have h1 := rk_append_le A B
  have h2 := rk_le_length A
  rw [List.length_append] at h
  omega
theorem rank_le (k s h l p seed : Nat) (es : List Nat) : rankA k s h l p seed es ≤ s + h + es.length := by
  have := rk_le_length ((rowsA k s h l p seed es).map rowVec)
  rw [List.length_map, rowsA_length] at this
  exact this
theorem rank_F0 (k s h : Nat) : rk ((rowsF0 k s h).map rowVec) = s + h := by
  have : rk (vecs (packL (k + s + h) (rowsF0 k s h))) = s + h := rows_rank k s h (graysE k s h)
  rw [vecs_packL fun r hr => (rowsF0_in r hr).1] at this
  exact this
/-- The seed of K. -/
def IsSeed (k s h l p seed : Nat) : Prop := seed < 65536 ∧ rankA k s h l p seed (List.range k) = l ∧ ∀ t, t < seed → rankA k s h l p t (List.range k) ≠ l
theorem IsSeed.unique {k s h l p a b : Nat} (ha : IsSeed k s h l p a) (hb : IsSeed k s h l p b) : a = b := by
  obtain ⟨-, a1, a2⟩ := ha
  obtain ⟨-, b1, b2⟩ := hb
  rcases Nat.lt_trichotomy a b with h | h | h
  · exact absurd a1 (b2 a h)
  · exact h
  · exact absurd b1 (a2 b h)
theorem isSeed_ex {k s h l p : Nat} (H : OfP k s h l p) (hk1 : 1 ≤ k) (hk2 : k ≤ 128) : ∃ seed, IsSeed k s h l p seed := by
  obtain ⟨seed, h1, h2⟩ := seed_ex hk1 hk2 H
  have h3 : rankA k s h l p seed (List.range k) = l := by
    have := h2 (graysE k s h) (graysE_is k s h) (fun e => walkE l p seed e) (fun e _ => walkE_is H hk1 hk2 seed e)
    refine Eq.trans (congrArg rk ?_) this
    unfold rowsA rowsF0
    rw [List.map_append, List.map_append, List.map_map, List.map_map]
    congr 1
    exact List.map_congr_left fun e _ => rowE_vec H hk1 hk2 seed e
  obtain ⟨m, g1, g2, g3⟩ := least_nat (fun t => rankA k s h l p t (List.range k) = l) seed h3
  exact ⟨m, Nat.lt_of_le_of_lt g3 h1, g1, g2⟩

/-! ### the equations -/
def eqL (l : Nat) (r y : List Nat) : Vec := longV (packR l r) y l
theorem eqL_proj {l : Nat} {r y : List Nat} (h : ∀ c ∈ r, c < l) : proj l (eqL l r y) = rowVec r := by
  unfold eqL
  rw [longV_proj, bitW_packR h]
  intro c hc
  rw [packR_bit h, decide_eq_false_iff_not]
  intro hm
  have := h c hm
  omega
theorem packR_word (l : Nat) (r : List Nat) : Word (packR l r) := (packR_packs l r).2.1
theorem packR_len (l : Nat) (r : List Nat) : (packR l r).length = kOf l := (packR_packs l r).1
theorem eqL_ok {l size : Nat} {r y : List Nat} (h : ∀ c ∈ r, c < l) (hy : y.length = size) (ho : Octets y) : EqOk l size (packR l r, y) :=
  ⟨packR_len l r, packR_word l r, fun c hc => by
    rw [packR_bit h, decide_eq_false_iff_not]
    intro hm
    have := h c hm
    omega, hy, ho⟩
/-- The precode's equations; those of source symbols behind them. -/
noncomputable def sysF (k s h l size : Nat) : List Vec := (rowsF0 k s h).map fun r => eqL l r (List.replicate size 0)
noncomputable def sysE (k s h l p seed size : Nat) (src : Nat → List Nat) (j : Nat) : List Vec := sysF k s h l size ++ (List.range j).map fun e => eqL l (rowE l p seed e) (src e)
theorem sysE_zero (k s h l p seed size : Nat) (src : Nat → List Nat) : sysE k s h l p seed size src 0 = sysF k s h l size := by simp [sysE]
theorem sysE_succ (k s h l p seed size : Nat) (src : Nat → List Nat) (j : Nat) : sysE k s h l p seed size src (j + 1) = sysE k s h l p seed size src j ++ [eqL l (rowE l p seed j) (src j)] := by
  unfold sysE
  rw [List.range_succ, List.map_append, List.append_assoc]
  rfl
theorem sysF_proj {k s h l size : Nat} (hl : l = k + s + h) : (sysF k s h l size).map (proj l) = (rowsF0 k s h).map rowVec := by
  unfold sysF
  rw [List.map_map]
  exact List.map_congr_left fun r hr => eqL_proj (by rw [hl]; exact (rowsF0_in r hr).1)
theorem sysE_proj {k s h l p seed size : Nat} {src : Nat → List Nat} (hl : l = k + s + h) (j : Nat) : (sysE k s h l p seed size src j).map (proj l) = (rowsA k s h l p seed (List.range j)).map rowVec := by
  unfold sysE rowsA
  rw [List.map_append, List.map_append, sysF_proj hl]
  congr 1
  rw [List.map_map, List.map_map]
  exact List.map_congr_left fun e _ => eqL_proj rowE_lt
/-- One more is fresh just if the rank is one more. -/
theorem fresh_iff {k s h l p seed size j : Nat} {src : Nat → List Nat} {y : List Nat} (hl : l = k + s + h) (hr : rankA k s h l p seed (List.range j) = s + h + j) :
    (kindV l (sysE k s h l p seed size src j) (eqL l (rowE l p seed j) y) = 1 → rankA k s h l p seed (List.range (j + 1)) = s + h + (j + 1)) ∧
    (kindV l (sysE k s h l p seed size src j) (eqL l (rowE l p seed j) y) ≠ 1 → ∀ m, j < m → rankA k s h l p seed (List.range m) ≠ s + h + m) := by
  have e1 : rankA k s h l p seed (List.range (j + 1)) = rk ((rowsA k s h l p seed (List.range j)).map rowVec ++ [rowVec (rowE l p seed j)]) := by
    unfold rankA
    rw [List.range_succ, rowsA_snoc, List.map_append]
    rfl
  unfold kindV
  rw [sysE_proj hl, eqL_proj rowE_lt]
  constructor
  · intro hk
    have hn : ¬ Sp ((rowsA k s h l p seed (List.range j)).map rowVec) (rowVec (rowE l p seed j)) := fun hs => by
      rw [if_pos hs] at hk
      split at hk <;> omega
    rw [e1, rk_out hn]
    have : rk ((rowsA k s h l p seed (List.range j)).map rowVec) = s + h + j := hr
    omega
  · intro hk m hm hf
    have hs : Sp ((rowsA k s h l p seed (List.range j)).map rowVec) (rowVec (rowE l p seed j)) := Classical.byContradiction fun hs => hk (if_neg hs)
    have e2 : rankA k s h l p seed (List.range (j + 1)) = s + h + j := by
      rw [e1, rk_in hs]
      exact hr
    obtain ⟨d, rfl⟩ : ∃ d, m = j + 1 + d := ⟨m - (j + 1), by omega⟩
    have e3 : rowsA k s h l p seed (List.range (j + 1 + d)) = rowsA k s h l p seed (List.range (j + 1)) ++ ((List.range d).map (fun t => j + 1 + t)).map (rowE l p seed) := by
      unfold rowsA
      rw [List.range_add, List.map_append, List.append_assoc]
    have e4 : rankA k s h l p seed (List.range (j + 1 + d)) ≤ rankA k s h l p seed (List.range (j + 1)) + d := by
      unfold rankA
      rw [e3, List.map_append]
      refine Nat.le_trans (rk_append_le _ _) ?_
      simp
    omega
theorem rank_F (k s h l p seed : Nat) : rankA k s h l p seed (List.range 0) = s + h + 0 := by
  unfold rankA
  rw [show List.range 0 = [] from rfl, rowsA_nil, rank_F0]
  rfl
/-- The precode's equations are all fresh. -/
theorem freshF {k s h l size i : Nat} (hl : l = k + s + h) (hi : i < s + h) (y : List Nat) : kindV l (((rowsF0 k s h).take i).map fun r => eqL l r (List.replicate size 0)) (eqL l ((rowsF0 k s h).getD i []) y) = 1 := by
  have hlen := rowsF0_length k s h
  have hin : i < (rowsF0 k s h).length := by omega
  have hp : (((rowsF0 k s h).take i).map fun r => eqL l r (List.replicate size 0)).map (proj l) = ((rowsF0 k s h).take i).map rowVec := by
    rw [List.map_map]
    exact List.map_congr_left fun r hr => eqL_proj (by rw [hl]; exact (rowsF0_in r (List.mem_of_mem_take hr)).1)
  have hg := rowsF0_getD hin _ rfl
  unfold kindV
  rw [hp, eqL_proj (by rw [hl]; exact hg.1), if_neg]
  intro hs
  have h1 := rank_F0 k s h
  have e : (rowsF0 k s h).map rowVec = (((rowsF0 k s h).take i).map rowVec ++ [rowVec ((rowsF0 k s h).getD i [])]) ++ ((rowsF0 k s h).drop (i + 1)).map rowVec := by
    rw [List.append_assoc, List.singleton_append, ← List.map_cons, ← List.map_append]
    congr 1
    have : (rowsF0 k s h).getD i [] = (rowsF0 k s h)[i] := by simp [List.getD_eq_getElem?_getD, hin]
    rw [this, ← List.drop_eq_getElem_cons hin, List.take_append_drop]
  rw [e] at h1
  have h2 := rk_cut (h1.trans (by rw [← e, List.length_map, hlen]))
  rw [rk_in hs, List.length_append, List.length_singleton] at h2
  have := rk_le_length (((rowsF0 k s h).take i).map rowVec)
  omega
theorem takeF_succ {k s h l size i : Nat} (hi : i < s + h) : (((rowsF0 k s h).take (i + 1)).map fun r => eqL l r (List.replicate size 0)) = (((rowsF0 k s h).take i).map fun r => eqL l r (List.replicate size 0)) ++ [eqL l ((rowsF0 k s h).getD i []) (List.replicate size 0)] := by
  have hlen := rowsF0_length k s h
  have hin : i < (rowsF0 k s h).length := by omega
  rw [List.take_succ_eq_append_getElem hin, List.map_append]
  simp [List.getD_eq_getElem?_getD, hin]
theorem takeF_all {k s h l size : Nat} : (((rowsF0 k s h).take (s + h)).map fun r => eqL l r (List.replicate size 0)) = sysF k s h l size := by
  unfold sysF
  rw [List.take_of_length_le (by rw [rowsF0_length]; omega)]

/-! ### what is known -/
/-- Middle symbols as a system tells them. -/
def Tells (l size : Nat) (K : List Vec) (V : List (List Nat)) : Prop := V.length = l ∧ ∀ c, c < l → ∃ x, ValV l K c x ∧ V.getD c [] = symV l size x
theorem Tells.row {l size : Nat} {K : List Vec} {V : List (List Nat)} (h : Tells l size K V) : ∀ r ∈ V, r.length = size ∧ Octets r := fun r hr => by
  obtain ⟨i, hi, rfl⟩ := List.getElem_of_mem hr
  obtain ⟨x, -, e⟩ := h.2 i (by rw [← h.1]; exact hi)
  rw [List.getD_eq_getElem?_getD, List.getElem?_eq_getElem hi, Option.getD_some] at e
  rw [e]
  exact ⟨symV_length _ _ _, symV_octets _ _ _⟩
theorem rowVec_nil : rowVec [] = vzero := funext fun c => by simp [rowVec, vzero]
theorem rowVec_snoc {r : List Nat} {c : Nat} (h : c ∉ r) : rowVec (r ++ [c]) = vadd (rowVec r) (unitV c) := funext fun d => by
  unfold rowVec vadd unitV
  by_cases h1 : d = c
  · subst h1; simp [h]
  · by_cases h2 : d ∈ r <;> simp [h1, h2]
theorem Tells.sum {l size : Nat} {K : List Vec} {V : List (List Nat)} (h : Tells l size K V) : ∀ r : List Nat, (∀ c ∈ r, c < l) → r.Nodup → ∃ x, Sp K x ∧ proj l x = rowVec r ∧ sumS size (r.map fun c => V.getD c []) = symV l size x := by
  intro r
  induction hn : r.length generalizing r with
  | zero =>
    intro _ _
    obtain rfl := List.eq_nil_of_length_eq_zero hn
    refine ⟨vzero, Sp.zero _, by rw [proj_zero, rowVec_nil], ?_⟩
    rw [List.map_nil, sumS_nil]
    apply ext_getD (by rw [symV_length]; simp)
    intro i hi
    have hi' : i < size := by simpa using hi
    rw [symV_getD _ hi', byteAt_byte (x := 0) (by decide) (fun b _ => by simp [vzero])]
    simp [List.getD_eq_getElem?_getD, hi']
  | succ n ih =>
    intro hlt hnd
    obtain ⟨r, c, rfl⟩ : ∃ q c, r = q ++ [c] := ⟨r.dropLast, r.getLast (by intro e; simp [e] at hn), (List.dropLast_concat_getLast _).symm⟩
    rw [List.length_append, List.length_singleton] at hn
    have hnd2 := List.nodup_append.1 hnd
    obtain ⟨x, h1, h2, h3⟩ := ih r (by omega) (fun d hd => hlt d (List.mem_append_left _ hd)) hnd2.1
    obtain ⟨y, h4, h5⟩ := h.2 c (hlt c (by simp))
    have hc : c ∉ r := fun hm => hnd2.2.2 c hm c (by simp) rfl
    refine ⟨vadd x y, h1.add h4.1, by rw [proj_add, h2, h4.2, rowVec_snoc hc], ?_⟩
    rw [List.map_append, List.map_singleton, sumS_snoc (by rw [h5, symV_length]), h3, h5, symV_add]
/-- Each equation holds of what is told. -/
theorem Tells.holds {l size : Nat} {K : List Vec} {V : List (List Nat)} (h : Tells l size K V) (hc : Cons l K) {r y : List Nat} (hr : ∀ c ∈ r, c < l) (hd : r.Nodup) (hy : y.length = size) (ho : Octets y) (hm : Sp K (eqL l r y)) :
    sumS size (r.map fun c => V.getD c []) = y := by
  obtain ⟨x, h1, h2, h3⟩ := h.sum r hr hd
  have e : x = eqL l r y := hc.unique h1 hm (by rw [h2, eqL_proj hr])
  rw [h3, e]
  have := symV_long (row := packR l r) (sym := y) (n := l) ho
  rw [hy] at this
  exact this
theorem mem_sysF {k s h l size i : Nat} (hi : i < s + h) : eqL l ((rowsF0 k s h).getD i []) (List.replicate size 0) ∈ sysF k s h l size := by
  have hlen := rowsF0_length k s h
  have hin : i < (rowsF0 k s h).length := by omega
  refine List.mem_map.2 ⟨_, List.getElem_mem hin, ?_⟩
  simp [List.getD_eq_getElem?_getD, hin]
theorem mem_sysE {k s h l p seed size j e : Nat} {src : Nat → List Nat} (he : e < j) : eqL l (rowE l p seed e) (src e) ∈ sysE k s h l p seed size src j :=
  List.mem_append_right _ (List.mem_map.2 ⟨e, List.mem_range.2 he, rfl⟩)
theorem octets_zero (size : Nat) : Octets (List.replicate size 0) := Octets.replicate size

/-! ### sums of source symbols -/
def mixV (l : Nat) (u v : Vec) : Vec := fun c => if c < l then u c else u c ^^ v c
theorem mixV_add (l : Nat) (u v a b : Vec) : mixV l (vadd u a) (vadd v b) = vadd (mixV l u v) (mixV l a b) := funext fun c => by
  unfold mixV vadd
  by_cases h : c < l
  · simp [h]
  · simp only [if_neg h]
    cases u c <;> cases v c <;> cases a c <;> cases b c <;> rfl
theorem mixV_zero (l : Nat) : mixV l vzero vzero = vzero := funext fun c => by unfold mixV vzero; split <;> rfl
theorem mixV_proj (l : Nat) (u v : Vec) : proj l (mixV l u v) = proj l u := funext fun c => by
  unfold proj mixV
  by_cases h : c < l <;> simp [h]
theorem mixV_sym (l size : Nat) (u v : Vec) : symV l size (mixV l u v) = xorW (symV l size u) (symV l size v) := by
  rw [← symV_add]
  unfold symV
  refine List.map_congr_left fun i _ => ?_
  refine byteAt_byte (byteAt_lt _ _) fun b hb => ?_
  rw [byteAt_bit _ _ hb]
  unfold mixV vadd
  rw [if_neg (by omega)]
theorem mixV_eq {l : Nat} {r a b : List Nat} (hab : a.length = b.length) : mixV l (eqL l r a) (eqL l r b) = eqL l r (xorW a b) := funext fun c => by
  unfold mixV eqL
  by_cases h : c < l
  · rw [if_pos h, longV_row h, longV_row h]
  · rw [if_neg h]
    by_cases h2 : c < l + 8 * a.length
    · obtain ⟨i, q, hi, hq, e⟩ : ∃ i q, i < a.length ∧ q < 8 ∧ c = l + 8 * i + q := ⟨(c - l) / 8, (c - l) % 8, by omega, by omega, by omega⟩
      subst e
      rw [longV_sym hi hq, longV_sym (by omega) hq, longV_sym (by rw [xorW_length hab]; exact hi) hq, xorW_getD hab, Nat.testBit_xor]
    · rw [longV_out (by omega), longV_out (by omega), longV_out (by rw [xorW_length hab]; omega)]; rfl
theorem xor_zeros (size : Nat) : xorW (List.replicate size 0) (List.replicate size 0) = List.replicate size 0 := by
  apply ext_getD (by rw [xorW_length rfl])
  intro i hi
  have hi' : i < size := by rw [xorW_length rfl] at hi; simpa using hi
  rw [xorW_getD rfl]
  simp [List.getD_eq_getElem?_getD, hi']
theorem sums_span {k s h l p seed size j : Nat} {a b : Nat → List Nat} (hab : ∀ e, e < j → (a e).length = (b e).length) {x : Vec} (hl : l = k + s + h) (hx : Sp ((rowsA k s h l p seed (List.range j)).map rowVec) x) :
    ∃ u v, Sp (sysE k s h l p seed size a j) u ∧ Sp (sysE k s h l p seed size b j) v ∧ Sp (sysE k s h l p seed size (fun e => xorW (a e) (b e)) j) (mixV l u v) ∧ proj l u = x ∧ proj l v = x := by
  refine hx (fun x => ∃ u v, Sp (sysE k s h l p seed size a j) u ∧ Sp (sysE k s h l p seed size b j) v ∧ Sp (sysE k s h l p seed size (fun e => xorW (a e) (b e)) j) (mixV l u v) ∧ proj l u = x ∧ proj l v = x) ⟨?_, ?_⟩ ?_
  · exact ⟨vzero, vzero, Sp.zero _, Sp.zero _, by rw [mixV_zero]; exact Sp.zero _, proj_zero _, proj_zero _⟩
  · rintro x y ⟨u, v, h1, h2, h3, h4, h5⟩ ⟨u', v', g1, g2, g3, g4, g5⟩
    exact ⟨vadd u u', vadd v v', h1.add g1, h2.add g2, by rw [mixV_add]; exact h3.add g3, by rw [proj_add, h4, g4], by rw [proj_add, h5, g5]⟩
  · intro r hr
    obtain ⟨q, hq, rfl⟩ := List.mem_map.1 hr
    rcases List.mem_append.1 hq with hq | hq
    · have hb : ∀ c ∈ q, c < l := by rw [hl]; exact (rowsF0_in q hq).1
      have hm : ∀ src, Sp (sysE k s h l p seed size src j) (eqL l q (List.replicate size 0)) := fun src => .mem (List.mem_append_left _ (List.mem_map.2 ⟨q, hq, rfl⟩))
      exact ⟨_, _, hm a, hm b, by rw [mixV_eq rfl, xor_zeros]; exact hm _, eqL_proj hb, eqL_proj hb⟩
    · obtain ⟨e, he, rfl⟩ := List.mem_map.1 hq
      have he := List.mem_range.1 he
      exact ⟨_, _, .mem (mem_sysE he), .mem (mem_sysE he), by rw [mixV_eq (hab e he)]; exact .mem (mem_sysE (src := fun e => xorW (a e) (b e)) he), eqL_proj rowE_lt, eqL_proj rowE_lt⟩
/-- Sums of source symbols have the sums of what is told. -/
theorem tells_sum {k s h l p seed size j : Nat} {a b : Nat → List Nat} {A B C : List (List Nat)} (hab : ∀ e, e < j → (a e).length = (b e).length) (hl : l = k + s + h)
    (hA : Tells l size (sysE k s h l p seed size a j) A) (hB : Tells l size (sysE k s h l p seed size b j) B) (hC : Tells l size (sysE k s h l p seed size (fun e => xorW (a e) (b e)) j) C)
    (cA : Cons l (sysE k s h l p seed size a j)) (cB : Cons l (sysE k s h l p seed size b j)) (cC : Cons l (sysE k s h l p seed size (fun e => xorW (a e) (b e)) j)) {c : Nat} (hc : c < l) :
    xorW (A.getD c []) (B.getD c []) = C.getD c [] := by
  obtain ⟨x, hx, eA⟩ := hA.2 c hc
  obtain ⟨y, hy, eB⟩ := hB.2 c hc
  obtain ⟨z, hz, eC⟩ := hC.2 c hc
  have hk := hx.known
  rw [sysE_proj hl] at hk
  obtain ⟨u, v, h1, h2, h3, h4, h5⟩ := sums_span (size := size) hab hl hk
  have e1 : x = u := cA.unique hx.1 h1 (by rw [hx.2, h4])
  have e2 : y = v := cB.unique hy.1 h2 (by rw [hy.2, h5])
  have e3 : z = mixV l u v := cC.unique hz.1 h3 (by rw [hz.2, mixV_proj, h4])
  rw [eA, eB, eC, e1, e2, e3, mixV_sym]
end Go.Proofs.YticoaioeeppapaaGreatDoor
end

section
/- Package params and the document's primes: prime, IsPrime, Prime. -/
namespace Go.Proofs.YticoaioeeppapaaGreatDoor
open Go.RowKit Go.Extern.Stop Go.Stop Go.Extern

/-- What prime tells: the least prime from n on. -/
def PrimeSays (n : Int) (w : World) (e : Ending) (w' : World) : Prop := ∃ p : Nat, e = .returned (.int .i64 p) ∧ LeastP n p ∧ w = w'

theorem sq_bound {c d : Nat} (hc : c ≤ 65537) (h : d * d ≤ c) : d ≤ 256 := by
  rcases Nat.lt_or_ge 256 d with h1 | h1
  · have := Nat.mul_le_mul h1 h1
    omega
  · exact h1
theorem sq_le {d : Nat} (h : d ≤ 257) : d * d ≤ 66049 := Nat.mul_le_mul h h

set_option maxRecDepth 1000000 in
set_option maxHeartbeats 1000000 in
theorem prime_any {w : World} (n : Int) (hn : n ≤ 65537) (hn0 : I64 n) :
    Calls Tryz.prog 71 #[.int .i64 n] w (PrimeSays n w) := by
  obtain ⟨c0, hc1, hc2, hc3, hc4, hc5⟩ : ∃ c0 : Nat, (n < 2 ∧ c0 = 2 ∨ 2 ≤ n ∧ n = (c0 : Int)) ∧ 2 ≤ c0 ∧ c0 ≤ 65537 ∧ n ≤ c0 ∧ ∀ q : Nat, n ≤ q → q < c0 → ¬ IsP q := by
    refine ⟨(max n 2).toNat, by omega, by omega, by omega, by omega, fun q h1 h2 h3 => ?_⟩
    have := h3.1
    omega
  have HQ := Lib.hid hc5
  clear hc5
  rcases hc1 with ⟨h, h2⟩ | ⟨h, h2⟩
  all_goals
    have H2 := Lib.hid h2
    clear h2
    go_enter Tryz.func71, Tryz.ntmps71
    go_wp2_with fail
    go_step3
    go_wp2_with fail
    go_step3
    go_wp2_with fail
    go_loopg [3] 65537 (fun gk i wr => ∃ c : Nat, i = .int .i64 c ∧ 2 ≤ c ∧ c ≤ 65537 ∧ n ≤ c ∧ (∀ q : Nat, n ≤ q → q < c → ¬ IsP q) ∧ 65537 - c ≤ gk ∧ w = wr)
    case atStart => exact ⟨c0, by rw [H2.out]; try rfl, hc2, hc3, hc4, HQ.out, by omega, rfl⟩
    case round =>
      clear hc2 hc3 hc4 HQ H2
      obtain ⟨c, rfl, h2, h65, hnc, hq, hg, rfl⟩ := hrel
      have HQ := Lib.hid hq
      obtain ⟨go, rfl⟩ : ∃ go, go = gk := ⟨gk, rfl⟩
      have HG := Lib.hid hg
      clear hq hg
      go_wp2_with fail
      go_loopg [3, 4] 257 (fun gd i j wr => ∃ d : Nat, i = .int .i64 c ∧ j = .int .i64 d ∧ 2 ≤ d ∧ d ≤ 257 ∧ (∀ e, 2 ≤ e → e < d → c % e ≠ 0) ∧ 257 - d ≤ gd ∧ w = wr)
      case atStart => exact ⟨2, rfl, rfl, by omega, by omega, fun e h1 h3 => by omega, by omega, rfl⟩
      case round =>
        obtain ⟨d, rfl, rfl, hd2, hd257, hdiv, hgd, rfl⟩ := hrel
        have HD := Lib.hid hdiv
        have HGD := Lib.hid hgd
        clear hdiv hgd
        have hsq := sq_le hd257
        have hsqI : (d : Int) * (d : Int) ≤ 66049 := by rw [← Int.natCast_mul]; omega
        have hsq0 : 0 ≤ (d : Int) * (d : Int) := by rw [← Int.natCast_mul]; omega
        have hd0 : (d : Int) ≠ 0 := by omega
        have hd1 : ((d : Int) == 0) = false := by simpa using hd0
        by_cases hdd : d * d ≤ c
        · have hddI : (d : Int) * (d : Int) ≤ (c : Int) := by rw [← Int.natCast_mul]; omega
          have hdec : decide ((d : Int) * (d : Int) ≤ (c : Int)) = true := decide_eq_true hddI
          have hd256 := sq_bound h65 hdd
          by_cases hm : c % d = 0
          · have hNP : Hid (¬ IsP c) := Lib.hid (not_isP hd2 (by
              have : 2 * d ≤ d * d := Nat.mul_le_mul_right d hd2
              omega) hm)
            have hmI : ((c : Int) % (d : Int)) = 0 := by rw [← Int.natCast_emod, hm]; rfl
            have hmB : ((c : Int) % (d : Int) == 0) = true := by simpa using hmI
            have hc65 : c < 65537 := by
              rcases Nat.lt_or_ge c 65537 with h' | h'
              · exact h'
              · obtain rfl : c = 65537 := by omega
                exact absurd p65537 hNP.out
            clear hm hmI hddI hdd hsq
            obtain ⟨g', rfl⟩ : ∃ g', go = g' + 1 := ⟨go - 1, by have := HG.out; omega⟩
            go_wp2_with fail
            go_roundg g'
            case measure => omega
            case rel => exact ⟨c + 1, by go_num, by omega, by omega, by omega, fun q h1 h3 => by
              rcases (by omega : q < c ∨ q = c) with h4 | rfl
              · exact HQ.out q h1 h4
              · exact hNP.out, by have := HG.out; omega, rfl⟩
          · have hmI : ((c : Int) % (d : Int)) ≠ 0 := by rw [← Int.natCast_emod]; omega
            have hmB : ((c : Int) % (d : Int) == 0) = false := by simpa using hmI
            have HM := Lib.hid hm
            obtain ⟨g', rfl⟩ : ∃ g', gk = g' + 1 := ⟨gk - 1, by have := HGD.out; omega⟩
            clear hm hmI hddI hdd hsq
            go_wp2_with fail
            go_roundg g'
            case measure => omega
            case rel => exact ⟨d + 1, rfl, by go_num, by omega, by omega, fun e h1 h3 => by
              rcases (by omega : e < d ∨ e = d) with h4 | rfl
              · exact HD.out e h1 h4
              · exact HM.out, by have := HGD.out; omega, rfl⟩
        · have hddI : ¬ (d : Int) * (d : Int) ≤ (c : Int) := by rw [← Int.natCast_mul]; omega
          have hdec : decide ((d : Int) * (d : Int) ≤ (c : Int)) = false := decide_eq_false hddI
          have HP : Hid (IsP c) := Lib.hid (isP_of_root h2 d HD.out (by omega))
          clear hddI hdd hsq
          go_wp2_with fail
          try rw [Exit.noGoto_ret]
          go_ret
          exact ⟨c, rfl, ⟨HP.out, hnc, HQ.out⟩, rfl⟩

/-- Whether n is a prime that is told of. -/
noncomputable def isPI (n : Int) : Bool := by classical exact decide (2 ≤ n ∧ n ≤ 65536 ∧ IsP n.toNat)
theorem isPI_true {n : Int} (h1 : 2 ≤ n) (h2 : n ≤ 65536) (h : IsP n.toNat) : isPI n = true := by unfold isPI; simp [h1, h2, h]
theorem isPI_false {n : Int} (h : ¬ (2 ≤ n ∧ n ≤ 65536 ∧ IsP n.toNat)) : isPI n = false := by unfold isPI; classical exact decide_eq_false h
theorem isPI_iff (n : Int) : isPI n = true ↔ 2 ≤ n ∧ n ≤ 65536 ∧ IsP n.toNat := by unfold isPI; classical exact decide_eq_true_iff

set_option maxRecDepth 1000000 in
theorem rIsPrime_any {w : World} (n : Int) : Calls Tryz.prog 76 #[.int .i64 n] w fun e w' => e = .returned (.bool (isPI n)) ∧ w = w' := by
  by_cases h1 : 2 ≤ n
  · by_cases h2 : n ≤ 65536
    · obtain ⟨c, rfl⟩ : ∃ c : Nat, n = (c : Int) := ⟨n.toNat, by omega⟩
      have HT : Hid (IsP c → isPI (c : Int) = true) := Lib.hid fun h => isPI_true h1 h2 (by simpa using h)
      have HF : Hid (¬ IsP c → isPI (c : Int) = false) := Lib.hid fun h => isPI_false (fun h' => h (by simpa using h'.2.2))
      have d1 : decide ((c : Int) < 2) = false := decide_eq_false (by omega)
      have d2 : decide ((65536 : Int) < c) = false := decide_eq_false (by omega)
      go_enter Tryz.func76, Tryz.ntmps76
      go_wp2
      go_loopw [3] (fun j wr => ∃ d : Nat, j = .int .i64 d ∧ 2 ≤ d ∧ d ≤ 257 ∧ d ≤ c ∧ (∀ e, 2 ≤ e → e < d → c % e ≠ 0) ∧ w = wr) (fun j _ => 257 - (intOf j).toNat)
      case atStart => exact ⟨2, rfl, by omega, by omega, by omega, fun e h1 h3 => by omega, rfl⟩
      case round =>
        obtain ⟨d, rfl, hd2, hd257, hdc, hdiv, rfl⟩ := hrel
        have HD := Lib.hid hdiv
        clear hdiv
        have hd0 : (d : Int) ≠ 0 := by omega
        have hd1 : ((d : Int) == 0) = false := by simpa using hd0
        by_cases h256 : d ≤ 256
        · have e1 : decide ((d : Int) ≤ 256) = true := decide_eq_true (by omega)
          by_cases hlt : d < c
          · have e2 : decide ((d : Int) < (c : Int)) = true := decide_eq_true (by omega)
            have e3 : decide (d < c) = true := decide_eq_true hlt
            by_cases hm : c % d = 0
            · have hNP := Lib.hid (HF.out (not_isP hd2 hlt hm))
              have hmI : ((c : Int) % (d : Int)) = 0 := by rw [← Int.natCast_emod, hm]; rfl
              have hmB : ((c : Int) % (d : Int) == 0) = true := by simpa using hmI
              clear hm hmI
              go_wp2
              go_ret
              exact ⟨by rw [hNP.out]; rfl, rfl⟩
            · have hmI : ((c : Int) % (d : Int)) ≠ 0 := by rw [← Int.natCast_emod]; omega
              have hmB : ((c : Int) % (d : Int) == 0) = false := by simpa using hmI
              have HM := Lib.hid hm
              clear hm hmI
              go_wp2
              go_roundw
              case rel => exact ⟨d + 1, by go_num, by omega, by omega, by omega, fun e h1 h3 => by
                rcases (by omega : e < d ∨ e = d) with h4 | rfl
                · exact HD.out e h1 h4
                · exact HM.out, trivial⟩
              case measure => simp [intOf]; omega
          · have e2 : decide ((d : Int) < (c : Int)) = false := decide_eq_false (by omega)
            have e3 : decide (d < c) = false := decide_eq_false hlt
            have hP := Lib.hid (HT.out ⟨by omega, fun e h1 h3 => HD.out e h1 (by omega)⟩)
            go_wp2
            go_ret
            exact ⟨by rw [hP.out]; rfl, rfl⟩
        · have e1 : decide ((d : Int) ≤ 256) = false := decide_eq_false (by omega)
          have hP := Lib.hid (HT.out (isP_of_root (by omega) 257 (fun e h1 h3 => HD.out e h1 (by omega)) (by omega)))
          go_wp2
          go_ret
          exact ⟨by rw [hP.out]; rfl, rfl⟩
    · have HB := Lib.hid (isPI_false (n := n) (by omega))
      have h3 : decide ((65536 : Int) < n) = true := decide_eq_true (by omega)
      have h4 : decide (n < 2) = false := decide_eq_false (by omega)
      go_enter Tryz.func76, Tryz.ntmps76
      go_wp2
      go_ret
      exact ⟨by rw [HB.out]; rfl, rfl⟩
  · have HB := Lib.hid (isPI_false (n := n) (by omega))
    have h3 : decide (n < 2) = true := decide_eq_true (by omega)
    go_enter Tryz.func76, Tryz.ntmps76
    go_wp2
    go_ret
    exact ⟨by rw [HB.out]; rfl, rfl⟩

set_option maxRecDepth 1000000 in
theorem rPrime_any {w : World} (n : Int) (hn : n ≤ 65521) (hn0 : I64 n) : Calls Tryz.prog 47 #[.int .i64 n] w (PrimeSays n w) := by
  obtain ⟨c0, hc1, hc2, hc3, hc4, hc5⟩ : ∃ c0 : Nat, (n < 2 ∧ c0 = 2 ∨ 2 ≤ n ∧ n = (c0 : Int)) ∧ 2 ≤ c0 ∧ c0 ≤ 65521 ∧ n ≤ c0 ∧ ∀ q : Nat, n ≤ q → q < c0 → ¬ IsP q := by
    refine ⟨(max n 2).toNat, by omega, by omega, by omega, by omega, fun q h1 h2 h3 => ?_⟩
    have := h3.1
    omega
  have HQ := Lib.hid hc5
  clear hc5
  rcases hc1 with ⟨h, h2⟩ | ⟨h, h2⟩
  all_goals
    have H2 := Lib.hid h2
    clear h2
    go_enter Tryz.func47, Tryz.ntmps47
    go_wp2
    go_loopw [3] (fun i wr => ∃ c : Nat, i = .int .i64 c ∧ 2 ≤ c ∧ c ≤ 65521 ∧ n ≤ c ∧ (∀ q : Nat, n ≤ q → q < c → ¬ IsP q) ∧ w = wr) (fun i _ => 65521 - (intOf i).toNat)
    case atStart => exact ⟨c0, by rw [H2.out]; try rfl, hc2, hc3, hc4, HQ.out, rfl⟩
    case round =>
      clear hc2 hc3 hc4 HQ H2
      obtain ⟨c, rfl, h2, h65, hnc, hq, rfl⟩ := hrel
      have HQ := Lib.hid hq
      clear hq
      by_cases h65' : c < 65521
      · have e1 : decide ((c : Int) < 65521) = true := decide_eq_true (by omega)
        by_cases hp : IsP c
        · have HP := Lib.hid hp
          have HB := Lib.hid (isPI_true (n := (c : Int)) (by omega) (by omega) (by simpa using hp))
          clear hp
          go_wp2_with fail
          refine (rIsPrime_any (c : Int)).mono ?_
          rintro e w1 ⟨rfl, rfl⟩
          rw [HB.out]
          go_wp2
          go_ret
          exact ⟨c, rfl, ⟨HP.out, hnc, HQ.out⟩, rfl⟩
        · have HP := Lib.hid hp
          have HB := Lib.hid (isPI_false (n := (c : Int)) (fun h => hp (by simpa using h.2.2)))
          clear hp
          go_wp2_with fail
          refine (rIsPrime_any (c : Int)).mono ?_
          rintro e w1 ⟨rfl, rfl⟩
          rw [HB.out]
          go_wp2
          go_roundw
          case rel => exact ⟨c + 1, by go_num, by omega, by omega, by omega, fun q h1 h3 => by
            rcases (by omega : q < c ∨ q = c) with h4 | rfl
            · exact HQ.out q h1 h4
            · exact HP.out, trivial⟩
          case measure => simp [intOf]; omega
      · have e1 : decide ((c : Int) < 65521) = false := decide_eq_false (by omega)
        have HC : Hid (c = 65521) := Lib.hid (by omega)
        go_wp2
        go_ret
        exact ⟨c, rfl, ⟨by rw [HC.out]; exact p65521, hnc, HQ.out⟩, rfl⟩
end Go.Proofs.YticoaioeeppapaaGreatDoor
end

section
/- Blocks known whole: a row of the call's own whose capacity is its length; cells and marks of a block. (Was in SyA, ElMem.) -/
namespace Go.Proofs.YticoaioeeppapaaGreatDoor
open Go.RowKit Go.Extern.Stop Go.Stop Go.Extern

theorem own_full {w : World} {base n g : Nat} {e : TypeId} {xs : List Value} (h : w.ownsRow base e 1 (.slice (some ⟨g, 0, none⟩) n n) n xs) : base ≤ g ∧ xs.length = n ∧ w.heap[g]? = some (.cells xs.toArray e (0, 0)) := by
  have h1 := h.1
  rcases h.2 with ⟨e1, _⟩ | ⟨g', cap, cur, e1, hb, hg, hc, hm, hs, ht⟩
  · cases e1
  · obtain ⟨rfl, rfl⟩ : g = g' ∧ n = cap := by simpa using e1
    refine ⟨hb, by omega, ?_⟩
    rw [hg]
    have : cur.toList = xs := by
      rw [← ht, List.take_of_length_le (by simp; omega)]
    rw [← this]

theorem own_of_heap {w : World} {base n g : Nat} {e : TypeId} {xs : List Value} (hb : base ≤ g) (hl : xs.length = n) (hm : n ≤ maxLen) (h : w.heap[g]? = some (.cells xs.toArray e (0, 0))) : w.ownsRow base e 1 (.slice (some ⟨g, 0, none⟩) n n) n xs :=
  ⟨by omega, .inr ⟨g, n, xs.toArray, rfl, hb, h, Nat.le_refl _, hm, by simp; omega, by rw [List.take_of_length_le (by simp; omega)]⟩⟩

theorem splice_all {α : Type} {L cs : List α} (h : cs.length = L.length) : splice L 0 cs = cs := by
  unfold splice
  rw [List.drop_of_length_le (by omega)]
  simp

theorem cell_of_heap {w : World} {b j : Nat} {cur : Array Value} {t : TypeId} {z : Nat × Nat} {u : Value} (h : w.heap[b]? = some (.cells cur t z)) (hj : cur[j]? = some u) : w.cell? ⟨b, j, none⟩ = some u := by
  unfold World.cell?
  rw [show w.heap[(⟨b, j, none⟩ : Addr).block]? = _ from h]
  simpa using hj

theorem frozen_of_heap {w : World} {b j : Nat} {cur : Array Value} {t : TypeId} (h : w.heap[b]? = some (.cells cur t (0, 0))) : w.frozen? ⟨b, j, none⟩ = false := by
  unfold World.frozen?
  rw [show w.heap[(⟨b, j, none⟩ : Addr).block]? = _ from h]
  simp

theorem heap_setCell_at {w : World} {b j : Nat} {cur : Array Value} {t : TypeId} {z : Nat × Nat} {u : Value} (h : w.heap[b]? = some (.cells cur t z)) : (w.setCell ⟨b, j, none⟩ u).heap[b]? = some (.cells (cur.setIfInBounds j u) t z) := by
  simp only [World.setCell, Array.getElem?_modify]
  simp [h]

end Go.Proofs.YticoaioeeppapaaGreatDoor
end
