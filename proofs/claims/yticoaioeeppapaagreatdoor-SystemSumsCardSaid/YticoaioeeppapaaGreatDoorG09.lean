import Derived.Test.YticoaioeeppapaaGreatDoorG08
import Derived.Test.YticoaioeeppapaaGreatDoorG07

section
/- A row's truths with its symbol's bits behind them; bits as bytes; no program. -/
namespace Go.Proofs.YticoaioeeppapaaGreatDoor

def bitsTo (sym : List Nat) (k : Nat) : List Bool := (List.range k).map fun i => (sym.getD (i / 8) 0).testBit (i % 8)
def bitsOf (sym : List Nat) : List Bool := bitsTo sym (8 * sym.length)
def longB (row sym : List Nat) (n : Nat) : List Bool := truthsB row n ++ bitsOf sym
def longV (row sym : List Nat) (n : Nat) : Vec := bitB (longB row sym n)
def byteAt (v : Nat → Bool) (q : Nat) : Nat := (List.range 8).foldl (fun acc b => acc + (if v (q + b) then 2 ^ b else 0)) 0
def symV (n size : Nat) (v : Vec) : List Nat := (List.range size).map fun i => byteAt v (n + 8 * i)

theorem bitsTo_length (sym : List Nat) (k : Nat) : (bitsTo sym k).length = k := by simp [bitsTo]
theorem bitsTo_succ (sym : List Nat) (k : Nat) : bitsTo sym (k + 1) = bitsTo sym k ++ [(sym.getD (k / 8) 0).testBit (k % 8)] := by simp [bitsTo, List.range_succ]
theorem longB_length (row sym : List Nat) (n : Nat) : (longB row sym n).length = n + 8 * sym.length := by simp [longB, truthsB_length, bitsOf, bitsTo_length]

theorem longV_row {row sym : List Nat} {n c : Nat} (h : c < n) : longV row sym n c = bitW row c := by
  unfold longV bitB longB
  rw [List.getD_eq_getElem?_getD, List.getElem?_append_left (by rw [truthsB_length]; exact h)]
  simp [truthsB, h]
theorem longV_sym {row sym : List Nat} {n i b : Nat} (hi : i < sym.length) (hb : b < 8) : longV row sym n (n + 8 * i + b) = (sym.getD i 0).testBit b := by
  unfold longV bitB longB bitsOf bitsTo
  rw [List.getD_eq_getElem?_getD, List.getElem?_append_right (by rw [truthsB_length]; omega), truthsB_length, show n + 8 * i + b - n = 8 * i + b by omega]
  rw [List.getElem?_map, List.getElem?_range (by omega)]
  simp only [Option.map_some, Option.getD_some]
  rw [show (8 * i + b) / 8 = i by omega, show (8 * i + b) % 8 = b by omega]
theorem longV_out {row sym : List Nat} {n c : Nat} (h : n + 8 * sym.length ≤ c) : longV row sym n c = false := bitB_out (by rw [longB_length]; exact h)
theorem longV_proj {row sym : List Nat} {n : Nat} (h : ∀ c, n ≤ c → bitW row c = false) : proj n (longV row sym n) = bitW row := by
  funext c
  by_cases hc : c < n
  · rw [proj_low hc, longV_row hc]
  · rw [h c (by omega)]; unfold proj; rw [if_neg hc]

theorem byteAt_byte {v : Nat → Bool} {q x : Nat} (hx : x < 256) (h : ∀ b, b < 8 → v (q + b) = x.testBit b) : byteAt v q = x := by
  have e : byteAt v q = (List.range 8).foldl (fun acc b => acc + (if x.testBit b then 2 ^ b else 0)) 0 := by
    unfold byteAt
    simp only [List.range_succ, List.range_zero, List.nil_append, List.foldl_append, List.foldl_cons, List.foldl_nil]
    simp only [h 0 (by omega), h 1 (by omega), h 2 (by omega), h 3 (by omega), h 4 (by omega), h 5 (by omega), h 6 (by omega), h 7 (by omega)]
  rw [e]
  have all : ∀ y : Fin 256, (List.range 8).foldl (fun acc b => acc + (if y.val.testBit b then 2 ^ b else 0)) 0 = y.val := by decide +kernel
  exact all ⟨x, hx⟩
theorem symV_long {row sym : List Nat} {n : Nat} (h : Octets sym) : symV n sym.length (longV row sym n) = sym := by
  apply ext_getD (by simp [symV])
  intro i hi
  have hi' : i < sym.length := by simpa [symV] using hi
  rw [show (symV n sym.length (longV row sym n)).getD i 0 = byteAt (longV row sym n) (n + 8 * i) by simp [symV, List.getD_eq_getElem?_getD, hi']]
  exact byteAt_byte (h.getD i) fun b hb => longV_sym hi' hb
/-- Long rows of one symbol's size are added as their rows and symbols are. -/
theorem longV_add {r1 r2 s1 s2 : List Nat} {n : Nat} (hr : r1.length = r2.length) (hs : s1.length = s2.length) : vadd (longV r1 s1 n) (longV r2 s2 n) = longV (xorW r1 r2) (xorW s1 s2) n := by
  funext c
  by_cases h1 : c < n
  · rw [longV_row h1, bitW_xor hr]
    simp only [vadd, longV_row h1]
  · by_cases h2 : c < n + 8 * s1.length
    · obtain ⟨i, b, hi, hb, e⟩ : ∃ i b, i < s1.length ∧ b < 8 ∧ c = n + 8 * i + b := ⟨(c - n) / 8, (c - n) % 8, by omega, by omega, by omega⟩
      subst e
      rw [longV_sym (by rw [xorW_length hs]; exact hi) hb, xorW_getD hs, Nat.testBit_xor]
      simp only [vadd, longV_sym hi hb, longV_sym (show i < s2.length by omega) hb]
    · rw [longV_out (by rw [xorW_length hs]; omega)]
      simp only [vadd]
      rw [longV_out (by omega), longV_out (by omega)]; rfl
end Go.Proofs.YticoaioeeppapaaGreatDoor
end

section
/- Equations kept by their least columns, no program: what a reduced equation is beside them. -/
namespace Go.Proofs.YticoaioeeppapaaGreatDoor

abbrev Eqn := List Nat × List Nat
abbrev noEq : Eqn := ([], [])
/-- An equation of a system of n unknown ones of that size. -/
def EqOk (n size : Nat) (q : Eqn) : Prop := q.1.length = kOf n ∧ Word q.1 ∧ (∀ c, n ≤ c → bitW q.1 c = false) ∧ q.2.length = size ∧ Octets q.2

/-- The kept equations' vectors, one at each place. -/
def uF (f : Nat → Option Eqn) (n : Nat) : Nat → Vec := fun c => match f c with | none => vzero | some q => longV q.1 q.2 n
theorem uF_none {f : Nat → Option Eqn} {n c : Nat} (h : f c = none) : uF f n c = vzero := by unfold uF; rw [h]
theorem uF_some {f : Nat → Option Eqn} {n c : Nat} {q : Eqn} (h : f c = some q) : uF f n c = longV q.1 q.2 n := by unfold uF; rw [h]

/-- How many places are taken. -/
def cntF (f : Nat → Option Eqn) (n : Nat) : Nat := ((List.range n).filter fun c => (f c).isSome).length
theorem cntF_le (f : Nat → Option Eqn) (n : Nat) : cntF f n ≤ n := by unfold cntF; exact Nat.le_trans (List.length_filter_le _ _) (by simp)
theorem cntF_none (n : Nat) : cntF (fun _ => none) n = 0 := by unfold cntF; simp
theorem cntF_succ (f : Nat → Option Eqn) (n : Nat) : cntF f (n + 1) = cntF f n + (if (f n).isSome then 1 else 0) := by
  unfold cntF
  rw [List.range_succ, List.filter_append, List.length_append]
  congr 1
  simp only [List.filter_cons, List.filter_nil]
  split <;> rfl
theorem cntF_full {f : Nat → Option Eqn} : ∀ {n}, cntF f n = n → ∀ c, c < n → (f c).isSome = true
  | 0, _, c, hc => by omega
  | n + 1, h, c, hc => by
    rw [cntF_succ] at h
    have := cntF_le f n
    cases hs : (f n).isSome with
    | false => rw [hs] at h; simp at h; omega
    | true =>
      rw [hs] at h
      simp at h
      by_cases e : c = n
      · rw [e]; exact hs
      · exact cntF_full h c (by omega)
theorem cntF_congr {f g : Nat → Option Eqn} : ∀ {n}, (∀ c, c < n → (f c).isSome = (g c).isSome) → cntF f n = cntF g n
  | 0, _ => rfl
  | n + 1, h => by rw [cntF_succ, cntF_succ, h n (by omega), cntF_congr fun c hc => h c (by omega)]
def putF (f : Nat → Option Eqn) (c : Nat) (q : Eqn) : Nat → Option Eqn := fun d => if d = c then some q else f d
theorem cntF_put {f : Nat → Option Eqn} {c : Nat} {q : Eqn} (hz : f c = none) : ∀ {n}, c < n → cntF (putF f c q) n = cntF f n + 1
  | 0, h => by omega
  | n + 1, h => by
    rw [cntF_succ, cntF_succ]
    by_cases e : n = c
    · subst e
      rw [cntF_congr (g := f) (fun d hd => by unfold putF; rw [if_neg (by omega)]), hz, show putF f n q n = some q from if_pos rfl]
      rfl
    · rw [cntF_put hz (by omega), show putF f c q n = f n from if_neg e]
      omega
theorem uF_put {f : Nat → Option Eqn} {n c : Nat} {q : Eqn} : uF (putF f c q) n = upd (uF f n) c (longV q.1 q.2 n) := by
  funext d
  unfold uF putF upd
  by_cases e : d = c
  · rw [if_pos e, if_pos e]
  · rw [if_neg e, if_neg e]

theorem stair_cons {U : Nat → Vec} {n : Nat} (h : Stair U n) : Cons n (stL U n) := fun v hv hz => by
  rcases ech_lead (stNZ_ech h) v ((stNZ_span U n v).2 hv) with e | ⟨r, hr, c, h1, h2⟩
  · exact e
  · obtain ⟨d, hd, hne, rfl⟩ := mem_stNZ.1 hr
    have h3 := (h d hd).resolve_left hne
    have h4 : c = d := h1.unique h3
    subst h4
    have h5 := hz c hd
    rw [h2.1] at h5; cases h5

theorem kind_fresh {U : Nat → Vec} {n c : Nat} {l x : Vec} (h : Stair U n) (hx : Sp (stL U n) (vadd x l)) (hc : c < n) (hz : U c = vzero) (hl : Lead x c) : ¬ Sp ((stL U n).map (proj n)) (proj n l) := fun hs => by
  obtain ⟨v, hv, ev⟩ := Sp_lift hs
  have h1 : Sp (stL U n) (vadd (vadd x l) v) := hx.add hv
  refine stair_new h hz (x := vadd (vadd x l) v) ⟨?_, fun d hd => ?_⟩ h1
  · have := proj_eq ev hc
    simp only [vadd, this, hl.1]
    cases l c <;> rfl
  · have := proj_eq ev (Nat.lt_trans hd hc)
    simp only [vadd, this, hl.2 d hd]
    cases l d <;> rfl
theorem kindV_fresh {U : Nat → Vec} {n c : Nat} {l x : Vec} (h : Stair U n) (hx : Sp (stL U n) (vadd x l)) (hc : c < n) (hz : U c = vzero) (hl : Lead x c) : kindV n (stL U n) l = 1 := if_neg (kind_fresh h hx hc hz hl)
theorem kindV_known {K : List Vec} {n : Nat} {l : Vec} (h : Sp K l) : kindV n K l = 2 := by unfold kindV; rw [if_pos (Sp_proj n h), if_pos h]
theorem proj_zero_of {n : Nat} {x : Vec} (h : ∀ c, c < n → x c = false) : proj n x = vzero := by
  funext c; unfold proj; split
  · exact h c ‹_›
  · rfl
theorem kindV_clash {U : Nat → Vec} {n : Nat} {l x : Vec} (h : Stair U n) (hx : Sp (stL U n) (vadd x l)) (hz : ∀ c, c < n → x c = false) (hne : x ≠ vzero) : kindV n (stL U n) l = 3 := by
  have h1 : Sp ((stL U n).map (proj n)) (proj n l) := by
    have := Sp_proj n hx
    rw [proj_add, proj_zero_of hz, vadd_comm, vadd_zero] at this
    exact this
  have h2 : ¬ Sp (stL U n) l := fun hs => hne (stair_cons h x (hx.of_add hs) hz)
  unfold kindV
  rw [if_pos h1, if_neg h2]
/-- Behind a fresh equation, reduced. -/
theorem stair_snoc {U : Nat → Vec} {n c : Nat} {l x : Vec} (hx : Sp (stL U n) (vadd x l)) (hc : c < n) (hz : U c = vzero) : SpEq (stL (upd U c x) n) (stL U n ++ [l]) :=
  (span_upd hc hz).trans (.of
    (fun s hs => by
      rcases List.mem_append.1 hs with hs | hs
      · exact .mem (List.mem_append.2 (.inl hs))
      · rw [List.mem_singleton.1 hs]
        have h1 : Sp (stL U n ++ [l]) (vadd x l) := hx.sub fun r hr => List.mem_append.2 (.inl hr)
        exact h1.of_add (.mem (List.mem_append.2 (.inr (List.mem_singleton.2 rfl)))))
    (fun s hs => by
      rcases List.mem_append.1 hs with hs | hs
      · exact .mem (List.mem_append.2 (.inl hs))
      · rw [List.mem_singleton.1 hs]
        have h1 : Sp (stL U n ++ [x]) (vadd x l) := hx.sub fun r hr => List.mem_append.2 (.inl hr)
        rw [vadd_comm] at h1
        exact h1.of_add (.mem (List.mem_append.2 (.inr (List.mem_singleton.2 rfl))))))
theorem longV_zero {r s : List Nat} {n : Nat} (hr : bitW r = vzero) (hs : ∀ j, s.getD j 0 = 0) : longV r s n = vzero := by
  funext c
  by_cases h1 : c < n
  · rw [longV_row h1, hr]
  · by_cases h2 : c < n + 8 * s.length
    · obtain ⟨i, b, hi, hb, rfl⟩ : ∃ i b, i < s.length ∧ b < 8 ∧ c = n + 8 * i + b := ⟨(c - n) / 8, (c - n) % 8, by omega, by omega, by omega⟩
      rw [longV_sym hi hb, hs i, Nat.zero_testBit]; rfl
    · exact longV_out (by omega)
theorem longV_ne {r s : List Nat} {n j : Nat} (ho : Octets s) (hs : s.getD j 0 ≠ 0) : longV r s n ≠ vzero := fun e => by
  have hj : j < s.length := by
    by_cases h : j < s.length
    · exact h
    · exact absurd (by simp [List.getD_eq_getElem?_getD, Nat.not_lt.1 h]) hs
  refine hs (Nat.eq_of_testBit_eq fun b => ?_)
  rw [Nat.zero_testBit]
  by_cases hb : b < 8
  · rw [← longV_sym (row := r) (n := n) hj hb, e]; rfl
  · have := ho.getD j
    exact Nat.testBit_lt_two_pow (Nat.lt_of_lt_of_le this (Nat.pow_le_pow_right (n := 2) (by decide) (show 8 ≤ b by omega)))
theorem longV_lead {r s : List Nat} {n c : Nat} (hc : c < n) (h : Lead (bitW r) c) : Lead (longV r s n) c := ⟨by rw [longV_row hc]; exact h.1, fun d hd => by rw [longV_row (by omega)]; exact h.2 d hd⟩
end Go.Proofs.YticoaioeeppapaaGreatDoor
end

section
/- The values from the last one back, no program: a kept equation, and the values behind its least column. -/
namespace Go.Proofs.YticoaioeeppapaaGreatDoor

theorem byteAt_lt (v : Nat → Bool) (q : Nat) : byteAt v q < 256 := by
  unfold byteAt
  simp only [List.range_succ, List.range_zero, List.nil_append, List.foldl_append, List.foldl_cons, List.foldl_nil]
  split <;> split <;> split <;> split <;> split <;> split <;> split <;> split <;> omega
theorem byteAt_bit (v : Nat → Bool) (q : Nat) {b : Nat} (hb : b < 8) : (byteAt v q).testBit b = v (q + b) := by
  have h : ∀ x : Fin 256, byteAt (fun j => x.val.testBit j) 0 = x.val := by decide +kernel
  have e : byteAt v q = byteAt (fun j => v (q + j)) 0 := by unfold byteAt; simp
  have key : ∀ b0 b1 b2 b3 b4 b5 b6 b7 : Bool, ∀ t : Fin 8, (byteAt (fun j => [b0, b1, b2, b3, b4, b5, b6, b7].getD j false) 0).testBit t.val = [b0, b1, b2, b3, b4, b5, b6, b7].getD t.val false := by decide +kernel
  have e2 : byteAt (fun j => v (q + j)) 0 = byteAt (fun j => [v (q + 0), v (q + 1), v (q + 2), v (q + 3), v (q + 4), v (q + 5), v (q + 6), v (q + 7)].getD j false) 0 := by unfold byteAt; simp [List.range_succ]
  rw [e, e2, key _ _ _ _ _ _ _ _ ⟨b, hb⟩]
  match b, hb with
  | 0, _ => rfl
  | 1, _ => rfl
  | 2, _ => rfl
  | 3, _ => rfl
  | 4, _ => rfl
  | 5, _ => rfl
  | 6, _ => rfl
  | 7, _ => rfl
theorem symV_length (n size : Nat) (v : Vec) : (symV n size v).length = size := by simp [symV]
theorem symV_getD {n size i : Nat} (v : Vec) (h : i < size) : (symV n size v).getD i 0 = byteAt v (n + 8 * i) := by simp [symV, List.getD_eq_getElem?_getD, h]
theorem symV_octets (n size : Nat) (v : Vec) : Octets (symV n size v) := fun x hx => by
  obtain ⟨i, _, rfl⟩ := List.mem_map.1 hx
  exact byteAt_lt _ _
theorem symV_add (n size : Nat) (u v : Vec) : symV n size (vadd u v) = xorW (symV n size u) (symV n size v) := by
  have hl : (symV n size u).length = (symV n size v).length := by rw [symV_length, symV_length]
  apply ext_getD (by rw [xorW_length hl, symV_length, symV_length])
  intro i hi
  rw [symV_length] at hi
  rw [xorW_getD hl, symV_getD _ hi, symV_getD _ hi, symV_getD _ hi]
  apply Nat.eq_of_testBit_eq
  intro b
  by_cases hb : b < 8
  · rw [Nat.testBit_xor, byteAt_bit _ _ hb, byteAt_bit _ _ hb, byteAt_bit _ _ hb]; rfl
  · have big : ∀ x : Nat, x < 256 → x.testBit b = false := fun x hx => Nat.testBit_lt_two_pow (Nat.lt_of_lt_of_le hx (Nat.pow_le_pow_right (n := 2) (by decide) (show 8 ≤ b by omega)))
    rw [Nat.testBit_xor, big _ (byteAt_lt _ _), big _ (byteAt_lt _ _), big _ (byteAt_lt _ _)]; rfl

/-- From the least column on, as far as a column. -/
theorem back_to {n size c : Nat} {K : List Vec} {q : Eqn} {V : List (List Nat)} (hq : EqOk n size q) (hl : Lead (bitW q.1) c) (hc : c < n) (hK : Sp K (longV q.1 q.2 n)) (hV : V.getD c [] = q.2)
    (hv : ∀ d, c < d → d < n → ∃ x, ValV n K d x ∧ V.getD d [] = symV n size x) : ∀ m, c + 1 + m ≤ n → ∃ y, Sp K y ∧ (∀ d, d < n → y d = if d = c then true else if d < c + 1 + m then false else bitW q.1 d) ∧ sumS size (pickTo q.1 V (c + 1 + m)) = symV n size y
  | 0, _ => by
    refine ⟨longV q.1 q.2 n, hK, fun d hd => ?_, ?_⟩
    · rw [longV_row hd]
      by_cases e : d = c
      · rw [if_pos e, e]; exact hl.1
      · rw [if_neg e]
        by_cases e2 : d < c + 1 + 0
        · rw [if_pos e2]; exact hl.2 d (by omega)
        · rw [if_neg e2]
    · have hz : ∀ k, k ≤ c → pickTo q.1 V k = [] := by
        intro k
        induction k with
        | zero => intro _; rfl
        | succ k ih => intro hk; rw [pickTo_out (hl.2 k (by omega)), ih (by omega)]
      rw [Nat.add_zero, pickTo_in hl.1, hz c (Nat.le_refl _), hV, List.nil_append, sumS_one hq.2.2.2.1]
      have := symV_long (row := q.1) (n := n) hq.2.2.2.2
      rw [hq.2.2.2.1] at this
      exact this.symm
  | m + 1, hm => by
    obtain ⟨y, h1, h2, h3⟩ := back_to hq hl hc hK hV hv m (by omega)
    cases hb : bitW q.1 (c + 1 + m) with
    | false =>
      refine ⟨y, h1, fun d hd => ?_, by rw [show c + 1 + (m + 1) = c + 1 + m + 1 by omega, pickTo_out hb]; exact h3⟩
      rw [h2 d hd]
      by_cases e : d = c
      · rw [if_pos e, if_pos e]
      · rw [if_neg e, if_neg e]
        by_cases e2 : d < c + 1 + m
        · rw [if_pos e2, if_pos (by omega)]
        · rw [if_neg e2]
          by_cases e3 : d = c + 1 + m
          · rw [if_pos (by omega), e3, hb]
          · rw [if_neg (by omega)]
    | true =>
      obtain ⟨x, hx, hxV⟩ := hv (c + 1 + m) (by omega) (by omega)
      refine ⟨vadd y x, h1.add hx.1, fun d hd => ?_, ?_⟩
      · have hxd : x d = unitV (c + 1 + m) d := by
          have := congrFun hx.2 d
          rwa [proj_low hd] at this
        simp only [vadd, h2 d hd, hxd, unitV]
        by_cases e : d = c
        · rw [if_pos e, if_pos e, decide_eq_false (by omega)]; rfl
        · rw [if_neg e, if_neg e]
          by_cases e2 : d < c + 1 + m
          · rw [if_pos e2, if_pos (by omega), decide_eq_false (by omega)]; rfl
          · rw [if_neg e2]
            by_cases e3 : d = c + 1 + m
            · rw [if_pos (by omega), e3, hb]; simp
            · rw [if_neg (by omega), decide_eq_false e3]; simp
      · rw [show c + 1 + (m + 1) = c + 1 + m + 1 by omega, pickTo_in hb, sumS_snoc (by rw [hxV, symV_length]), h3, hxV, symV_add]
theorem back_val {n size c : Nat} {K : List Vec} {q : Eqn} {V : List (List Nat)} (hq : EqOk n size q) (hl : Lead (bitW q.1) c) (hc : c < n) (hK : Sp K (longV q.1 q.2 n)) (hV : V.getD c [] = q.2)
    (hv : ∀ d, c < d → d < n → ∃ x, ValV n K d x ∧ V.getD d [] = symV n size x) : ∃ x, ValV n K c x ∧ sumS size (pickTo q.1 V n) = symV n size x := by
  obtain ⟨y, h1, h2, h3⟩ := back_to hq hl hc hK hV hv (n - (c + 1)) (by omega)
  rw [show c + 1 + (n - (c + 1)) = n by omega] at h3
  refine ⟨y, ⟨h1, ?_⟩, h3⟩
  funext d
  unfold proj unitV
  by_cases hd : d < n
  · rw [if_pos hd, h2 d hd]
    by_cases e : d = c
    · rw [if_pos e, decide_eq_true e]
    · rw [if_neg e, if_pos (by omega), decide_eq_false e]
  · rw [if_neg hd, decide_eq_false (by omega)]
end Go.Proofs.YticoaioeeppapaaGreatDoor
end
