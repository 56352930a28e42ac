import Derived.Test.YtkhdjjcflbdegaaGreatDoorG29
import Derived.Test.YtkhdjjcflbdegaaGreatDoorG25

section
/- Layer 13's mathematics: equations kept as they came, each less those ahead of it. No program. -/
namespace Go.Proofs.YtkhdjjcflbdegaaGreatDoor

/-- What is kept: a vector, and its least column. -/
abbrev Kept := Vec × Nat
def vecsK (l : List Kept) : List Vec := l.map (·.1)
def stepK (e : Vec) (q : Kept) : Vec := if e q.2 then vadd e q.1 else e
/-- A vector less those that are kept. -/
def lessV (l : List Kept) (e : Vec) : Vec := l.foldl stepK e
structure KeptOk (n : Nat) (l : List Kept) : Prop where
  lead : ∀ q ∈ l, Lead q.1 q.2 ∧ q.2 < n
  less : l.Pairwise fun a b => b.1 a.2 = false

theorem lessV_nil (e : Vec) : lessV [] e = e := rfl
theorem lessV_cons (q : Kept) (l : List Kept) (e : Vec) : lessV (q :: l) e = lessV l (stepK e q) := rfl
theorem lessV_snoc (q : Kept) (l : List Kept) (e : Vec) : lessV (l ++ [q]) e = stepK (lessV l e) q := by simp [lessV, List.foldl_append]
theorem stepK_add (q : Kept) (a b : Vec) : stepK (vadd a b) q = vadd (stepK a q) (stepK b q) := by
  unfold stepK
  funext c
  cases ha : a q.2 <;> cases hb : b q.2 <;> simp only [vadd, ha, hb] <;> simp [vadd] <;> cases a c <;> cases b c <;> cases q.1 c <;> rfl
theorem lessV_add : ∀ (l : List Kept) (a b : Vec), lessV l (vadd a b) = vadd (lessV l a) (lessV l b)
  | [], _, _ => rfl
  | q :: l, a, b => by rw [lessV_cons, stepK_add, lessV_add l, ← lessV_cons, ← lessV_cons]
theorem stepK_zero (q : Kept) : stepK vzero q = vzero := if_neg (by simp [vzero])
theorem lessV_zero : ∀ l : List Kept, lessV l vzero = vzero
  | [] => rfl
  | q :: l => by rw [lessV_cons, stepK_zero, lessV_zero l]
theorem stepK_at (q : Kept) {e : Vec} {c : Nat} (h : q.1 c = false) : stepK e q c = e c := by
  unfold stepK
  split
  · simp only [vadd, h]; cases e c <;> rfl
  · rfl
theorem lessV_keep : ∀ {l : List Kept} {e : Vec} {c : Nat}, (∀ b ∈ l, b.1 c = false) → lessV l e c = e c
  | [], _, _, _ => rfl
  | q :: l, e, c, h => by
    rw [lessV_cons, lessV_keep fun b hb => h b (List.mem_cons_of_mem _ hb)]
    exact stepK_at q (h q (List.mem_cons_self ..))
/-- What has gone is a sum of what is kept. -/
theorem lessV_span : ∀ (l : List Kept) (e : Vec), Sp (vecsK l) (vadd (lessV l e) e)
  | [], e => by
    have : vadd (lessV [] e) e = vzero := by funext c; simp only [lessV_nil, vadd, vzero]; cases e c <;> rfl
    rw [this]
    exact .zero _
  | q :: l, e => by
    have h1 : Sp (vecsK (q :: l)) (vadd (lessV l (stepK e q)) (stepK e q)) := (lessV_span l (stepK e q)).sub fun r hr => List.mem_cons_of_mem _ hr
    have h2 : Sp (vecsK (q :: l)) (vadd (stepK e q) e) := by
      unfold stepK
      split
      · have : vadd (vadd e q.1) e = q.1 := by funext c; simp only [vadd]; cases e c <;> cases q.1 c <;> rfl
        rw [this]
        exact .mem (List.mem_cons_self ..)
      · have : vadd e e = vzero := by funext c; simp only [vadd, vzero]; cases e c <;> rfl
        rw [this]
        exact .zero _
    have h3 := h1.add h2
    have : vadd (vadd (lessV l (stepK e q)) (stepK e q)) (vadd (stepK e q) e) = vadd (lessV (q :: l) e) e := by
      funext c
      simp only [vadd, lessV_cons]
      cases lessV l (stepK e q) c <;> cases stepK e q c <;> cases e c <;> rfl
    rwa [this] at h3
section
variable {n : Nat} {l : List Kept}
theorem KeptOk.nil (n : Nat) : KeptOk n [] := ⟨fun q h => by simp at h, .nil⟩
theorem KeptOk.tail {q : Kept} (h : KeptOk n (q :: l)) : KeptOk n l := ⟨fun a ha => h.lead a (List.mem_cons_of_mem _ ha), (List.pairwise_cons.1 h.less).2⟩
theorem KeptOk.init {q : Kept} (h : KeptOk n (l ++ [q])) : KeptOk n l := ⟨fun a ha => h.lead a (List.mem_append_left _ ha), (List.pairwise_append.1 h.less).1⟩
/-- At each least column nothing is left. -/
theorem KeptOk.gone : ∀ {l : List Kept}, KeptOk n l → ∀ (e : Vec), ∀ q ∈ l, lessV l e q.2 = false
  | [], _, _, q, hq => by simp at hq
  | p :: l, h, e, q, hq => by
    rw [lessV_cons]
    rcases List.mem_cons.1 hq with rfl | hq
    · rw [lessV_keep fun b hb => (List.pairwise_cons.1 h.less).1 b hb]
      unfold stepK
      cases he : e q.2
      · rw [if_neg (by simp)]; exact he
      · rw [if_pos rfl]
        simp only [vadd, he, (h.lead q (List.mem_cons_self ..)).1.1]
        rfl
    · exact h.tail.gone _ q hq
/-- Of what is kept nothing is left. -/
theorem KeptOk.out : ∀ {l : List Kept}, KeptOk n l → ∀ q ∈ l, lessV l q.1 = vzero
  | [], _, q, hq => by simp at hq
  | p :: l, h, q, hq => by
    rw [lessV_cons]
    rcases List.mem_cons.1 hq with rfl | hq
    · have : stepK q.1 q = vzero := by
        unfold stepK
        rw [if_pos (h.lead q (List.mem_cons_self ..)).1.1]
        funext c
        simp only [vadd, vzero]
        cases q.1 c <;> rfl
      rw [this, lessV_zero]
    · have : stepK q.1 p = q.1 := if_neg (by rw [(List.pairwise_cons.1 h.less).1 q hq]; simp)
      rw [this]
      exact h.tail.out q hq
theorem KeptOk.span_iff (h : KeptOk n l) (v : Vec) : Sp (vecsK l) v ↔ lessV l v = vzero := by
  constructor
  · intro hv
    refine hv (fun v => lessV l v = vzero) ⟨lessV_zero l, fun a b ha hb => by rw [lessV_add, ha, hb]; rfl⟩ fun r hr => ?_
    obtain ⟨q, hq, rfl⟩ := List.mem_map.1 hr
    exact h.out q hq
  · intro hv
    have := lessV_span l v
    rw [hv] at this
    rwa [vadd_comm, vadd_zero] at this
/-- Below n it is told by what lies below n. -/
theorem stepK_low {q : Kept} (hq : q.2 < n) {a b : Vec} (h : ∀ c, c < n → a c = b c) : ∀ c, c < n → stepK a q c = stepK b q c := fun c hc => by
  unfold stepK
  rw [h _ hq]
  split
  · simp only [vadd, h c hc]
  · exact h c hc
theorem lessV_low : ∀ {l : List Kept}, (∀ q ∈ l, q.2 < n) → ∀ {a b : Vec}, (∀ c, c < n → a c = b c) → ∀ c, c < n → lessV l a c = lessV l b c
  | [], _, _, _, h, c, hc => h c hc
  | q :: _, hq, _, _, h, c, hc => lessV_low (fun a ha => hq a (List.mem_cons_of_mem _ ha)) (stepK_low (hq q (List.mem_cons_self ..)) h) c hc
theorem lessV_none : ∀ {l : List Kept}, (∀ q ∈ l, q.2 < n) → ∀ {a : Vec}, (∀ c, c < n → a c = false) → lessV l a = a
  | [], _, _, _ => rfl
  | q :: l, hq, a, h => by
    have : stepK a q = a := if_neg (by rw [h _ (hq q (List.mem_cons_self ..))]; simp)
    rw [lessV_cons, this]
    exact lessV_none (fun b hb => hq b (List.mem_cons_of_mem _ hb)) h
theorem KeptOk.cons (h : KeptOk n l) : Cons n (vecsK l) := fun v hv hz => by
  have h1 := (h.span_iff v).1 hv
  rwa [lessV_none (fun q hq => (h.lead q hq).2) hz] at h1
/-- What an equation is. -/
theorem KeptOk.fresh (h : KeptOk n l) {e : Vec} {c : Nat} (hc : c < n) (hl : Lead (lessV l e) c) : kindV n (vecsK l) e = 1 := by
  refine if_neg fun hs => ?_
  obtain ⟨v, hv, ev⟩ := Sp_lift hs
  have h1 := (h.span_iff v).1 hv
  have h2 := lessV_low (fun q hq => (h.lead q hq).2) (a := e) (b := v) (fun d hd => (proj_eq ev hd).symm) c hc
  rw [h1, hl.1] at h2
  cases h2
theorem KeptOk.known (h : KeptOk n l) {e : Vec} (hz : lessV l e = vzero) : kindV n (vecsK l) e = 2 := kindV_known ((h.span_iff e).2 hz)
theorem KeptOk.clash (h : KeptOk n l) {e : Vec} (hz : ∀ c, c < n → lessV l e c = false) (hne : lessV l e ≠ vzero) : kindV n (vecsK l) e = 3 := by
  have h1 : Sp ((vecsK l).map (proj n)) (proj n e) := by
    have := Sp_proj n (lessV_span l e)
    rwa [proj_add, proj_zero_of hz, vadd_comm, vadd_zero] at this
  unfold kindV
  rw [if_pos h1, if_neg fun hs => hne ((h.span_iff e).1 hs)]
theorem vecsK_snoc (l : List Kept) (q : Kept) : vecsK (l ++ [q]) = vecsK l ++ [q.1] := by simp [vecsK]
theorem KeptOk.snoc (h : KeptOk n l) {e : Vec} {c : Nat} (hc : c < n) (hl : Lead (lessV l e) c) : KeptOk n (l ++ [(lessV l e, c)]) := by
  refine ⟨fun q hq => ?_, List.pairwise_append.2 ⟨h.less, List.pairwise_singleton _ _, fun a ha b hb => ?_⟩⟩
  · rcases List.mem_append.1 hq with hq | hq
    · exact h.lead q hq
    · rw [List.mem_singleton.1 hq]
      exact ⟨hl, hc⟩
  · rw [List.mem_singleton.1 hb]
    exact h.gone e a ha
theorem span_less (l : List Kept) (e : Vec) (c : Nat) : SpEq (vecsK (l ++ [(lessV l e, c)])) (vecsK l ++ [e]) := by
  rw [vecsK_snoc]
  have hs := lessV_span l e
  refine .of (fun s hs' => ?_) (fun s hs' => ?_)
  · rcases List.mem_append.1 hs' with h | h
    · exact .mem (List.mem_append.2 (.inl h))
    · rw [List.mem_singleton.1 h]
      have h1 : Sp (vecsK l ++ [e]) (vadd (lessV l e) e) := hs.sub fun r hr => List.mem_append.2 (.inl hr)
      exact h1.of_add (.mem (List.mem_append.2 (.inr (List.mem_singleton.2 rfl))))
  · rcases List.mem_append.1 hs' with h | h
    · exact .mem (List.mem_append.2 (.inl h))
    · rw [List.mem_singleton.1 h]
      have h1 : Sp (vecsK l ++ [lessV l e]) (vadd (lessV l e) e) := hs.sub fun r hr => List.mem_append.2 (.inl hr)
      rw [vadd_comm] at h1
      exact h1.of_add (.mem (List.mem_append.2 (.inr (List.mem_singleton.2 rfl))))
theorem lead_proj {x : Vec} {c : Nat} (h : Lead x c) (hc : c < n) : Lead (proj n x) c := ⟨by rw [proj_low hc]; exact h.1, fun d hd => by rw [proj_low (by omega)]; exact h.2 d hd⟩
theorem KeptOk.ech (h : KeptOk n l) : Ech ((vecsK l).map (proj n)) := by
  refine ⟨fun r hr => ?_, ?_⟩
  · obtain ⟨x, hx, rfl⟩ := List.mem_map.1 hr
    obtain ⟨q, hq, rfl⟩ := List.mem_map.1 hx
    exact ⟨_, lead_proj (h.lead q hq).1 (h.lead q hq).2⟩
  · unfold vecsK
    rw [List.pairwise_map, List.pairwise_map]
    refine h.less.imp_of_mem fun {a b} ha hb hab c hc hd => ?_
    have h1 := lead_proj (h.lead a ha).1 (h.lead a ha).2
    have h2 := hc.unique h1
    subst h2
    have h3 := hd.1
    rw [proj_low (h.lead a ha).2, hab] at h3
    cases h3
/-- As many are kept as the rank is. -/
theorem KeptOk.rank (h : KeptOk n l) : l.length = rk ((vecsK l).map (proj n)) := by
  rw [← rk_eq h.ech (fun v => Iff.rfl)]
  simp [vecsK]
theorem KeptOk.length_le (h : KeptOk n l) : l.length ≤ n := by
  rw [h.rank]
  refine rk_le_cols fun r hr c hc => ?_
  obtain ⟨x, _, rfl⟩ := List.mem_map.1 hr
  unfold proj
  rw [if_neg (by omega)]
/-- Of full rank each column is a least one. -/
theorem KeptOk.full (h : KeptOk n l) (hn : l.length = n) {c : Nat} (hc : c < n) : ∃ q ∈ l, q.2 = c := by
  have h1 : Sp ((vecsK l).map (proj n)) (unitV c) := span_full (n := n) (fun r hr d hd => by
    obtain ⟨x, _, rfl⟩ := List.mem_map.1 hr
    unfold proj
    rw [if_neg (by omega)]) (by rw [← h.rank]; exact hn) hc
  have hu : Lead (unitV c) c := ⟨decide_eq_true rfl, fun d hd => decide_eq_false (by omega)⟩
  rcases ech_lead h.ech _ h1 with e | ⟨r, hr, d, h2, h3⟩
  · have := hu.1
    rw [e] at this
    cases this
  · obtain ⟨x, hx, rfl⟩ := List.mem_map.1 hr
    obtain ⟨q, hq, rfl⟩ := List.mem_map.1 hx
    refine ⟨q, hq, ?_⟩
    rw [h3.unique hu] at h2
    exact (lead_proj (h.lead q hq).1 (h.lead q hq).2).unique h2
end

/-! ### from the last column on -/
/-- What is left of an equation when the columns behind its least one have gone, up to m. -/
def BackK (n : Nat) (K : List Vec) (r : Vec) (c m : Nat) (y : Vec) : Prop := Sp K y ∧ ∀ d, d < n → y d = if d ≤ c then decide (d = c) else if d < m then false else r d
theorem BackK.start {n : Nat} {K : List Vec} {r : Vec} {c : Nat} (hr : Sp K r) (hl : Lead r c) : BackK n K r c (c + 1) r := by
  refine ⟨hr, fun d hd => ?_⟩
  by_cases h : d ≤ c
  · rw [if_pos h]
    by_cases e : d = c
    · rw [e, decide_eq_true rfl]; exact hl.1
    · rw [decide_eq_false e]; exact hl.2 d (by omega)
  · rw [if_neg h, if_neg (by omega)]
theorem BackK.skip {n : Nat} {K : List Vec} {r y : Vec} {c m : Nat} (h : BackK n K r c m y) (hm : r m = false) : BackK n K r c (m + 1) y := by
  refine ⟨h.1, fun d hd => ?_⟩
  rw [h.2 d hd]
  by_cases h1 : d ≤ c
  · rw [if_pos h1, if_pos h1]
  · rw [if_neg h1, if_neg h1]
    by_cases h2 : d < m
    · rw [if_pos h2, if_pos (by omega)]
    · rw [if_neg h2]
      by_cases h3 : d < m + 1
      · rw [if_pos h3, show d = m by omega, hm]
      · rw [if_neg h3]
theorem BackK.add {n : Nat} {K : List Vec} {r y v : Vec} {c m : Nat} (h : BackK n K r c m y) (hcm : c < m) (hm : r m = true) (hv : ValV n K m v) : BackK n K r c (m + 1) (vadd y v) := by
  refine ⟨h.1.add hv.1, fun d hd => ?_⟩
  have hvd : v d = decide (d = m) := by
    have := congrFun hv.2 d
    rwa [proj_low hd] at this
  simp only [vadd]
  rw [h.2 d hd, hvd]
  by_cases h1 : d ≤ c
  · rw [if_pos h1, if_pos h1, decide_eq_false (show ¬ d = m by omega)]
    cases decide (d = c) <;> rfl
  · rw [if_neg h1, if_neg h1]
    by_cases h2 : d < m
    · rw [if_pos h2, if_pos (by omega), decide_eq_false (show ¬ d = m by omega)]
      rfl
    · rw [if_neg h2]
      by_cases h3 : d < m + 1
      · rw [if_pos h3, show d = m by omega, hm, decide_eq_true rfl]
        rfl
      · rw [if_neg h3, decide_eq_false (show ¬ d = m by omega)]
        cases r d <;> rfl
theorem BackK.val {n : Nat} {K : List Vec} {r y : Vec} {c m : Nat} (h : BackK n K r c m y) (hm : n ≤ m) (hc : c < n) : ValV n K c y := by
  refine ⟨h.1, funext fun d => ?_⟩
  by_cases hd : d < n
  · rw [proj_low hd, h.2 d hd]
    unfold unitV
    by_cases h1 : d ≤ c
    · rw [if_pos h1]
    · rw [if_neg h1, if_pos (by omega), decide_eq_false (by omega)]
  · unfold proj unitV
    rw [if_neg hd, decide_eq_false (by omega)]

/-! ### encoding symbols of one block -/
theorem sp_out {K : List Vec} {m : Nat} (h : ∀ r ∈ K, ∀ c, m ≤ c → r c = false) {x : Vec} (hx : Sp K x) : ∀ c, m ≤ c → x c = false :=
  hx (fun x => ∀ c, m ≤ c → x c = false) ⟨fun _ _ => rfl, fun a b ha hb c hc => by simp only [vadd, ha c hc, hb c hc]; rfl⟩ fun r hr => h r hr
theorem eqL_of {l size : Nat} {r : List Nat} {x : Vec} (hr : ∀ c ∈ r, c < l) (hp : proj l x = rowVec r) (ho : ∀ c, l + 8 * size ≤ c → x c = false) : x = eqL l r (symV l size x) := funext fun c => by
  unfold eqL
  by_cases h1 : c < l
  · rw [longV_row h1, bitW_packR hr, ← hp, proj_low h1]
  · by_cases h2 : c < l + 8 * size
    · obtain ⟨i, b, hi, hb, rfl⟩ : ∃ i b, i < size ∧ b < 8 ∧ c = l + 8 * i + b := ⟨(c - l) / 8, (c - l) % 8, by omega, by omega, by omega⟩
      rw [longV_sym (by rw [symV_length]; exact hi) hb]
      rw [show (symV l size x).getD i 0 = byteAt x (l + 8 * i) by simp [symV, List.getD_eq_getElem?_getD, hi], byteAt_bit _ _ hb]
    · rw [longV_out (by rw [symV_length]; omega)]
      exact ho c (by omega)
theorem eqL_far {l size : Nat} {r y : List Nat} (hy : y.length = size) : ∀ c, l + 8 * size ≤ c → eqL l r y c = false := fun c hc => by
  unfold eqL
  exact longV_out (by rw [hy]; exact hc)
theorem sysE_far {k s h l p seed size j : Nat} {src : Nat → List Nat} (hs : ∀ e, e < j → (src e).length = size) : ∀ r ∈ sysE k s h l p seed size src j, ∀ c, l + 8 * size ≤ c → r c = false := fun r hr => by
  unfold sysE sysF at hr
  rcases List.mem_append.1 hr with hr | hr
  · obtain ⟨q, _, rfl⟩ := List.mem_map.1 hr
    exact eqL_far (by simp)
  · obtain ⟨e, he, rfl⟩ := List.mem_map.1 hr
    exact eqL_far (hs e (List.mem_range.1 he))
/-- What is told of a row is a sum of the system. -/
theorem Tells.mem {l size : Nat} {K : List Vec} {V : List (List Nat)} (h : Tells l size K V) (hK : ∀ r ∈ K, ∀ c, l + 8 * size ≤ c → r c = false) {r : List Nat} (hr : ∀ c ∈ r, c < l) (hd : r.Nodup) :
    Sp K (eqL l r (sumS size (r.map fun c => V.getD c []))) := by
  obtain ⟨x, hx, hp, hs⟩ := h.sum r hr hd
  rw [hs, ← eqL_of hr hp (sp_out hK hx)]
  exact hx
open Classical in
/-- In a system that can't be untrue nothing clashes. -/
theorem kind_in {n : Nat} {K0 K : List Vec} (hc : Cons n K0) (hK : ∀ r ∈ K, Sp K0 r) {e : Vec} (he : Sp K0 e) : kindV n K e = if Sp (K.map (proj n)) (proj n e) then 2 else 1 := by
  unfold kindV
  by_cases h : Sp (K.map (proj n)) (proj n e)
  · rw [if_pos h, if_pos h]
    obtain ⟨v, hv, ev⟩ := Sp_lift h
    have h1 : v = e := hc.unique (Sp.le hK hv) he ev
    rw [if_pos (h1 ▸ hv)]
  · rw [if_neg h, if_neg h]
theorem cons_in {n : Nat} {K0 K : List Vec} (hc : Cons n K0) (hK : ∀ r ∈ K, Sp K0 r) : Cons n K := fun v hv hz => hc v (Sp.le hK hv) hz
/-- The equations of the precode, and of encoding symbols that came. -/
noncomputable def sysD (k s h l p seed size : Nat) (y : Nat → List Nat) (es : List Nat) : List Vec := sysF k s h l size ++ es.map fun e => eqL l (rowE l p seed e) (y e)
theorem sysD_snoc (k s h l p seed size : Nat) (y : Nat → List Nat) (es : List Nat) (e : Nat) : sysD k s h l p seed size y (es ++ [e]) = sysD k s h l p seed size y es ++ [eqL l (rowE l p seed e) (y e)] := by
  simp [sysD]
theorem sysD_proj {k s h l p seed size : Nat} {y : Nat → List Nat} (hl : l = k + s + h) (es : List Nat) : (sysD k s h l p seed size y es).map (proj l) = (rowsA k s h l p seed es).map rowVec := by
  unfold sysD rowsA
  rw [List.map_append, sysF_proj hl, List.map_append, List.map_map, List.map_map]
  congr 1
  exact List.map_congr_left fun e _ => eqL_proj rowE_lt
theorem sysD_in {k s h l p seed size j : Nat} {src : Nat → List Nat} {V : List (List Nat)} (hV : Tells l size (sysE k s h l p seed size src j) V) (hs : ∀ e, e < j → (src e).length = size) (es : List Nat) :
    ∀ r ∈ sysD k s h l p seed size (fun e => sumS size ((rowE l p seed e).map fun c => V.getD c [])) es, Sp (sysE k s h l p seed size src j) r := fun r hr => by
  rcases List.mem_append.1 hr with hr | hr
  · exact .mem (List.mem_append_left _ hr)
  · obtain ⟨e, _, rfl⟩ := List.mem_map.1 hr
    exact hV.mem (sysE_far hs) rowE_lt (rowE_nodup l p seed e)
/-- What a system of full rank tells is what the one that it came of tells. -/
theorem tells_in {n size : Nat} {K0 K : List Vec} {U V : List (List Nat)} (hc : Cons n K0) (hK : ∀ r ∈ K, Sp K0 r) (hU : Tells n size K U) (hV : Tells n size K0 V) : U = V :=
  Tells.unique hc ⟨hU.1, fun c hcn => by
    obtain ⟨x, hx, e⟩ := hU.2 c hcn
    exact ⟨x, ⟨Sp.le hK hx.1, hx.2⟩, e⟩⟩ hV
/-- Another symbol than what is known clashes. -/
theorem kind_other {l size : Nat} {K : List Vec} {r y z : List Nat} (hc : Cons l K) (hr : ∀ c ∈ r, c < l) (hy : y.length = size) (hz : z.length = size) (oy : Octets y) (oz : Octets z) (hm : Sp K (eqL l r y)) (hne : y ≠ z) : kindV l K (eqL l r z) = 3 := by
  have hp : Sp (K.map (proj l)) (proj l (eqL l r z)) := by
    have := Sp_proj l hm
    rwa [eqL_proj hr, ← eqL_proj (y := z) hr] at this
  unfold kindV
  rw [if_pos hp, if_neg fun hs => hne ?_]
  have h1 : eqL l r y = eqL l r z := hc.unique hm hs (by rw [eqL_proj hr, eqL_proj hr])
  have h2 := congrArg (symV l size) h1
  unfold eqL at h2
  subst hy
  rw [symV_long oy, ← hz, symV_long oz] at h2
  exact h2
/-- The rank asks for no order, and for nothing twice. -/
theorem rank_same {k s h l p seed : Nat} {es fs : List Nat} (hm : ∀ e, e ∈ es ↔ e ∈ fs) : rankA k s h l p seed es = rankA k s h l p seed fs := by
  have key : ∀ {es fs : List Nat}, (∀ e, e ∈ es ↔ e ∈ fs) → ∀ r ∈ (rowsA k s h l p seed es).map rowVec, r ∈ (rowsA k s h l p seed fs).map rowVec := fun {es fs} hm r hr => by
    obtain ⟨q, hq, rfl⟩ := List.mem_map.1 hr
    refine List.mem_map.2 ⟨q, ?_, rfl⟩
    rcases List.mem_append.1 hq with hq | hq
    · exact List.mem_append_left _ hq
    · obtain ⟨e, he, rfl⟩ := List.mem_map.1 hq
      exact List.mem_append_right _ (List.mem_map.2 ⟨e, (hm e).1 he, rfl⟩)
  exact rk_congr (.of (fun r hr => .mem (key hm r hr)) (fun r hr => .mem (key (fun e => (hm e).symm) r hr)))
theorem rank_known {k s h l p seed e : Nat} {es : List Nat} (he : e ∈ es) : rankA k s h l p seed (es ++ [e]) = rankA k s h l p seed es :=
  rank_same fun x => by
    rw [List.mem_append, List.mem_singleton]
    exact ⟨fun hx => hx.elim id (fun e2 => e2 ▸ he), .inl⟩
/-- The source symbols from one of them on, round. -/
def rotL (k b j : Nat) : List Nat := (List.range j).map fun i => (i + b) % k
theorem rotL_mem {k b : Nat} (hk : 1 ≤ k) (hb : b < k) : ∀ e, e ∈ rotL k b k ↔ e ∈ List.range k := fun e => by
  unfold rotL
  rw [List.mem_map, List.mem_range]
  constructor
  · rintro ⟨i, _, rfl⟩
    exact Nat.mod_lt _ (by omega)
  · intro he
    by_cases h : b ≤ e
    · exact ⟨e - b, List.mem_range.2 (by omega), by rw [show e - b + b = e by omega]; exact Nat.mod_eq_of_lt he⟩
    · refine ⟨e + k - b, List.mem_range.2 (by omega), ?_⟩
      rw [show e + k - b + b = e + k by omega, Nat.add_mod_right]
      exact Nat.mod_eq_of_lt he
theorem rotL_succ (k b j : Nat) : rotL k b (j + 1) = rotL k b j ++ [(j + b) % k] := by simp [rotL, List.range_succ]
theorem rotL_add (k b j m : Nat) : rotL k b (j + m) = rotL k b j ++ (List.range m).map fun i => (j + i + b) % k := by
  unfold rotL
  rw [List.range_add, List.map_append, List.map_map]
  rfl
theorem rank_rot {k s h l p seed b : Nat} (hl : l = k + s + h) (hr : rankA k s h l p seed (List.range k) = l) (hk : 1 ≤ k) (hb : b < k) {j : Nat} (hj : j ≤ k) : rankA k s h l p seed (rotL k b j) = s + h + j := by
  obtain ⟨m, rfl⟩ : ∃ m, k = j + m := ⟨k - j, by omega⟩
  have h1 : rankA (j + m) s h l p seed (rotL (j + m) b (j + m)) = l := by rw [rank_same (rotL_mem hk hb), hr]
  rw [rotL_add] at h1
  unfold rankA at h1 ⊢
  have h2 : (rowsA (j + m) s h l p seed (rotL (j + m) b j ++ (List.range m).map fun i => (j + i + b) % (j + m))).map rowVec = (rowsA (j + m) s h l p seed (rotL (j + m) b j)).map rowVec ++ ((List.range m).map fun i => (j + i + b) % (j + m)).map fun e => rowVec (rowE l p seed e) := by
    simp [rowsA]
  rw [h2] at h1
  rw [rk_cut (B := ((List.range m).map fun i => (j + i + b) % (j + m)).map fun e => rowVec (rowE l p seed e)) (by rw [h1, List.length_append, List.length_map, rowsA_length]; simp [rotL]; omega)]
  rw [List.length_map, rowsA_length]
  simp [rotL]
end Go.Proofs.YtkhdjjcflbdegaaGreatDoor
end

section
/- Layer 13's mathematics, more: the rank of what is kept, and what it says of the next equation; systems of full rank. -/
namespace Go.Proofs.YtkhdjjcflbdegaaGreatDoor

/-- The rank of equations between n unknown ones. -/
noncomputable def rkP (n : Nat) (K : List Vec) : Nat := rk (K.map (proj n))
theorem rkP_le (n : Nat) (K : List Vec) : rkP n K ≤ n := rk_le_cols fun r hr c hc => by
  obtain ⟨x, _, rfl⟩ := List.mem_map.1 hr
  unfold proj
  rw [if_neg (by omega)]
theorem rkP_snoc_in {n : Nat} {K : List Vec} {e : Vec} (h : Sp (K.map (proj n)) (proj n e)) : rkP n (K ++ [e]) = rkP n K := by
  unfold rkP
  rw [List.map_append, List.map_singleton, rk_in h]
theorem rkP_snoc_out {n : Nat} {K : List Vec} {e : Vec} (h : ¬ Sp (K.map (proj n)) (proj n e)) : rkP n (K ++ [e]) = rkP n K + 1 := by
  unfold rkP
  rw [List.map_append, List.map_singleton, rk_out h]
theorem kindV_cases (n : Nat) (K : List Vec) (e : Vec) : (kindV n K e = 1 ∧ ¬ Sp (K.map (proj n)) (proj n e)) ∨ (kindV n K e = 2 ∧ Sp (K.map (proj n)) (proj n e)) ∨ (kindV n K e = 3 ∧ Sp (K.map (proj n)) (proj n e)) := by
  unfold kindV
  split
  · rename_i h
    split
    · exact .inr (.inl ⟨rfl, h⟩)
    · exact .inr (.inr ⟨rfl, h⟩)
  · rename_i h
    exact .inl ⟨rfl, h⟩
theorem addR_rk (n : Nat) (K : List Vec) (e : Vec) : addR n K e (rkP n K) = rkP n (addV n K e) := by
  unfold addR addV
  rcases kindV_cases n K e with ⟨h, hs⟩ | ⟨h, hs⟩ | ⟨h, hs⟩
  · rw [h, if_pos rfl, if_neg (by decide), rkP_snoc_out hs]
  · rw [h, if_neg (by decide), if_neg (by decide), rkP_snoc_in hs]; rfl
  · rw [h, if_neg (by decide), if_pos rfl]; rfl
/-- Of full rank nothing is fresh. -/
theorem kind_done {n : Nat} {K : List Vec} (h : rkP n K = n) (e : Vec) : kindV n K e ≠ 1 := fun hk => by
  rcases kindV_cases n K e with ⟨_, hs⟩ | ⟨h2, _⟩ | ⟨h2, _⟩
  · have h1 := rkP_snoc_out hs
    have h2 := rkP_le n (K ++ [e])
    omega
  · omega
  · omega
/-- Where the rank rises, it is fresh. -/
theorem kind_rise {n : Nat} {K : List Vec} {e : Vec} (h : rkP n (K ++ [e]) = rkP n K + 1) : kindV n K e = 1 := by
  rcases kindV_cases n K e with ⟨h1, _⟩ | ⟨_, hs⟩ | ⟨_, hs⟩
  · exact h1
  · rw [rkP_snoc_in hs] at h; omega
  · rw [rkP_snoc_in hs] at h; omega
theorem kind_mem {n : Nat} {K : List Vec} {e : Vec} (h : e ∈ K) : kindV n K e = 2 := kindV_known (.mem h)
/-- As many equations as their rank can't be untrue. -/
theorem cons_full {n : Nat} : ∀ (m : Nat) {K : List Vec}, K.length = m → rkP n K = m → Cons n K
  | 0, K, hl, _ => by
    obtain rfl := List.eq_nil_of_length_eq_zero hl
    exact Cons.nil n
  | m + 1, K, hl, hr => by
    obtain ⟨q, c, rfl⟩ : ∃ q c, K = q ++ [c] := ⟨K.dropLast, K.getLast (by intro e; simp [e] at hl), (List.dropLast_concat_getLast _).symm⟩
    rw [List.length_append, List.length_singleton] at hl
    have hr2 := hr
    unfold rkP at hr2
    rw [List.map_append, List.map_singleton] at hr2
    have h1 := rk_cut (A := q.map (proj n)) (B := [proj n c]) (by rw [hr2]; simp; omega)
    have h2 : rkP n q = m := by unfold rkP; rw [h1, List.length_map]; omega
    refine (cons_full m (by omega) h2).snoc fun hs => ?_
    rw [rkP_snoc_in hs, h2] at hr
    omega
theorem sysE_cons {k s h l p seed size : Nat} {src : Nat → List Nat} (hl : l = k + s + h) (hr : rankA k s h l p seed (List.range k) = l) : Cons l (sysE k s h l p seed size src k) := by
  refine cons_full l ?_ ?_
  · unfold sysE sysF
    simp [rowsF0_length]
    omega
  · unfold rkP
    rw [sysE_proj hl]
    exact hr
theorem sysD_rk {k s h l p seed size : Nat} {y : Nat → List Nat} (hl : l = k + s + h) (es : List Nat) : rkP l (sysD k s h l p seed size y es) = rankA k s h l p seed es := by
  unfold rkP
  rw [sysD_proj hl]
  rfl
theorem sysD_nil (k s h l p seed size : Nat) (y : Nat → List Nat) : sysD k s h l p seed size y [] = sysF k s h l size := by simp [sysD]
theorem sysD_mem {k s h l p seed size : Nat} {y : Nat → List Nat} {es : List Nat} {e : Nat} (he : e ∈ es) : eqL l (rowE l p seed e) (y e) ∈ sysD k s h l p seed size y es :=
  List.mem_append_right _ (List.mem_map.2 ⟨e, he, rfl⟩)
theorem symE_octets {l p sd size : Nat} {K : List Vec} {V : List (List Nat)} (h : Tells l size K V) (e : Nat) : Octets (symE l p sd size V e) := sumS_octets (fun r hr => by
  obtain ⟨c, hc, rfl⟩ := List.mem_map.1 hr
  have hcl : c < V.length := by rw [h.1]; exact rowE_lt c hc
  exact (h.row _ (by rw [List.getD_eq_getElem?_getD, List.getElem?_eq_getElem hcl]; exact List.getElem_mem hcl)).2) _
/-- What full rank tells of an equation that came. -/
theorem symE_holds {l p sd size e : Nat} {K : List Vec} {V : List (List Nat)} {y : List Nat} (hV : Tells l size K V) (hc : Cons l K) (hy : y.length = size) (ho : Octets y) (hm : Sp K (eqL l (rowE l p sd e) y)) : symE l p sd size V e = y :=
  hV.holds hc rowE_lt (rowE_nodup l p sd e) hy ho hm
/-- An encoding symbol that comes is fresh or known. -/
theorem kind_src {k s h l p sd size j : Nat} {src : Nat → List Nat} {V : List (List Nat)} (hc : Cons l (sysE k s h l p sd size src j)) (hV : Tells l size (sysE k s h l p sd size src j) V) (hs : ∀ e, e < j → (src e).length = size) (es : List Nat) (e : Nat) :
    kindV l (sysD k s h l p sd size (symE l p sd size V) es) (eqL l (rowE l p sd e) (symE l p sd size V e)) ≠ 3 := by
  have h1 := kind_in hc (sysD_in (p := p) (seed := sd) hV hs es) (hV.mem (sysE_far hs) (rowE_lt (p := p) (seed := sd) (e := e)) (rowE_nodup l p sd e))
  unfold symE
  intro h3
  rw [h1] at h3
  split at h3 <;> omega
theorem addV_src {k s h l p sd size j : Nat} {src : Nat → List Nat} {V : List (List Nat)} (hc : Cons l (sysE k s h l p sd size src j)) (hV : Tells l size (sysE k s h l p sd size src j) V) (hs : ∀ e, e < j → (src e).length = size) (es : List Nat) (e : Nat) :
    addV l (sysD k s h l p sd size (symE l p sd size V) es) (eqL l (rowE l p sd e) (symE l p sd size V e)) = sysD k s h l p sd size (symE l p sd size V) (es ++ [e]) := by
  unfold addV
  rw [if_neg (kind_src hc hV hs es e), sysD_snoc]
end Go.Proofs.YtkhdjjcflbdegaaGreatDoor
end
