import Derived.Test.YtkhdjjcflbdegaaGreatDoorG09
import Derived.Test.YtkhdjjcflbdegaaGreatDoorG06
import Derived.Test.YtkhdjjcflbdegaaGreatDoorG07

section
/- A row's truths with its symbol's bits behind them; bits as bytes; no program. -/
namespace Go.Proofs.YtkhdjjcflbdegaaGreatDoor

def bitsTo (sym : List Nat) (k : Nat) : List Bool := (List.range k).map fun i => (sym.getD (i / 8) 0).testBit (i % 8)
def bitsOf (sym : List Nat) : List Bool := bitsTo sym (8 * sym.length)
def longB (row sym : List Nat) (n : Nat) : List Bool := truthsB row n ++ bitsOf sym
def longV (row sym : List Nat) (n : Nat) : Vec := bitB (longB row sym n)
def byteAt (v : Nat → Bool) (q : Nat) : Nat := (List.range 8).foldl (fun acc b => acc + (if v (q + b) then 2 ^ b else 0)) 0
def symV (n size : Nat) (v : Vec) : List Nat := (List.range size).map fun i => byteAt v (n + 8 * i)

theorem bitsTo_length (sym : List Nat) (k : Nat) : (bitsTo sym k).length = k := by simp [bitsTo]
theorem bitsTo_succ (sym : List Nat) (k : Nat) : bitsTo sym (k + 1) = bitsTo sym k ++ [(sym.getD (k / 8) 0).testBit (k % 8)] := by simp [bitsTo, List.range_succ]
theorem longB_length (row sym : List Nat) (n : Nat) : (longB row sym n).length = n + 8 * sym.length := by simp [longB, truthsB_length, bitsOf, bitsTo_length]

theorem longV_row {row sym : List Nat} {n c : Nat} (h : c < n) : longV row sym n c = bitW row c := by
  unfold longV bitB longB
  rw [List.getD_eq_getElem?_getD, List.getElem?_append_left (by rw [truthsB_length]; exact h)]
  simp [truthsB, h]
theorem longV_sym {row sym : List Nat} {n i b : Nat} (hi : i < sym.length) (hb : b < 8) : longV row sym n (n + 8 * i + b) = (sym.getD i 0).testBit b := by
  unfold longV bitB longB bitsOf bitsTo
  rw [List.getD_eq_getElem?_getD, List.getElem?_append_right (by rw [truthsB_length]; omega), truthsB_length, show n + 8 * i + b - n = 8 * i + b by omega]
  rw [List.getElem?_map, List.getElem?_range (by omega)]
  simp only [Option.map_some, Option.getD_some]
  rw [show (8 * i + b) / 8 = i by omega, show (8 * i + b) % 8 = b by omega]
theorem longV_out {row sym : List Nat} {n c : Nat} (h : n + 8 * sym.length ≤ c) : longV row sym n c = false := bitB_out (by rw [longB_length]; exact h)
theorem longV_proj {row sym : List Nat} {n : Nat} (h : ∀ c, n ≤ c → bitW row c = false) : proj n (longV row sym n) = bitW row := by
  funext c
  by_cases hc : c < n
  · rw [proj_low hc, longV_row hc]
  · rw [h c (by omega)]; unfold proj; rw [if_neg hc]

theorem byteAt_byte {v : Nat → Bool} {q x : Nat} (hx : x < 256) (h : ∀ b, b < 8 → v (q + b) = x.testBit b) : byteAt v q = x := by
  have e : byteAt v q = (List.range 8).foldl (fun acc b => acc + (if x.testBit b then 2 ^ b else 0)) 0 := by
    unfold byteAt
    simp only [List.range_succ, List.range_zero, List.nil_append, List.foldl_append, List.foldl_cons, List.foldl_nil]
    simp only [h 0 (by omega), h 1 (by omega), h 2 (by omega), h 3 (by omega), h 4 (by omega), h 5 (by omega), h 6 (by omega), h 7 (by omega)]
  rw [e]
  have all : ∀ y : Fin 256, (List.range 8).foldl (fun acc b => acc + (if y.val.testBit b then 2 ^ b else 0)) 0 = y.val := by decide +kernel
  exact all ⟨x, hx⟩
theorem symV_long {row sym : List Nat} {n : Nat} (h : Octets sym) : symV n sym.length (longV row sym n) = sym := by
  apply ext_getD (by simp [symV])
  intro i hi
  have hi' : i < sym.length := by simpa [symV] using hi
  rw [show (symV n sym.length (longV row sym n)).getD i 0 = byteAt (longV row sym n) (n + 8 * i) by simp [symV, List.getD_eq_getElem?_getD, hi']]
  exact byteAt_byte (h.getD i) fun b hb => longV_sym hi' hb
/-- Long rows of one symbol's size are added as their rows and symbols are. -/
theorem longV_add {r1 r2 s1 s2 : List Nat} {n : Nat} (hr : r1.length = r2.length) (hs : s1.length = s2.length) : vadd (longV r1 s1 n) (longV r2 s2 n) = longV (xorW r1 r2) (xorW s1 s2) n := by
  funext c
  by_cases h1 : c < n
  · rw [longV_row h1, bitW_xor hr]
    simp only [vadd, longV_row h1]
  · by_cases h2 : c < n + 8 * s1.length
    · obtain ⟨i, b, hi, hb, e⟩ : ∃ i b, i < s1.length ∧ b < 8 ∧ c = n + 8 * i + b := ⟨(c - n) / 8, (c - n) % 8, by omega, by omega, by omega⟩
      subst e
      rw [longV_sym (by rw [xorW_length hs]; exact hi) hb, xorW_getD hs, Nat.testBit_xor]
      simp only [vadd, longV_sym hi hb, longV_sym (show i < s2.length by omega) hb]
    · rw [longV_out (by rw [xorW_length hs]; omega)]
      simp only [vadd]
      rw [longV_out (by omega), longV_out (by omega)]; rfl
end Go.Proofs.YtkhdjjcflbdegaaGreatDoor
end

section
/- Equations kept by their least columns, no program: what a reduced equation is beside them. -/
namespace Go.Proofs.YtkhdjjcflbdegaaGreatDoor

abbrev Eqn := List Nat × List Nat
abbrev noEq : Eqn := ([], [])
/-- An equation of a system of n unknown ones of that size. -/
def EqOk (n size : Nat) (q : Eqn) : Prop := q.1.length = kOf n ∧ Word q.1 ∧ (∀ c, n ≤ c → bitW q.1 c = false) ∧ q.2.length = size ∧ Octets q.2

/-- The kept equations' vectors, one at each place. -/
def uF (f : Nat → Option Eqn) (n : Nat) : Nat → Vec := fun c => match f c with | none => vzero | some q => longV q.1 q.2 n
theorem uF_none {f : Nat → Option Eqn} {n c : Nat} (h : f c = none) : uF f n c = vzero := by unfold uF; rw [h]
theorem uF_some {f : Nat → Option Eqn} {n c : Nat} {q : Eqn} (h : f c = some q) : uF f n c = longV q.1 q.2 n := by unfold uF; rw [h]

/-- How many places are taken. -/
def cntF (f : Nat → Option Eqn) (n : Nat) : Nat := ((List.range n).filter fun c => (f c).isSome).length
theorem cntF_le (f : Nat → Option Eqn) (n : Nat) : cntF f n ≤ n := by unfold cntF; exact Nat.le_trans (List.length_filter_le _ _) (by simp)
theorem cntF_none (n : Nat) : cntF (fun _ => none) n = 0 := by unfold cntF; simp
theorem cntF_succ (f : Nat → Option Eqn) (n : Nat) : cntF f (n + 1) = cntF f n + (if (f n).isSome then 1 else 0) := by
  unfold cntF
  rw [List.range_succ, List.filter_append, List.length_append]
  congr 1
  simp only [List.filter_cons, List.filter_nil]
  split <;> rfl
theorem cntF_full {f : Nat → Option Eqn} : ∀ {n}, cntF f n = n → ∀ c, c < n → (f c).isSome = true
  | 0, _, c, hc => by omega
  | n + 1, h, c, hc => by
    rw [cntF_succ] at h
    have := cntF_le f n
    cases hs : (f n).isSome with
    | false => rw [hs] at h; simp at h; omega
    | true =>
      rw [hs] at h
      simp at h
      by_cases e : c = n
      · rw [e]; exact hs
      · exact cntF_full h c (by omega)
theorem cntF_congr {f g : Nat → Option Eqn} : ∀ {n}, (∀ c, c < n → (f c).isSome = (g c).isSome) → cntF f n = cntF g n
  | 0, _ => rfl
  | n + 1, h => by rw [cntF_succ, cntF_succ, h n (by omega), cntF_congr fun c hc => h c (by omega)]
def putF (f : Nat → Option Eqn) (c : Nat) (q : Eqn) : Nat → Option Eqn := fun d => if d = c then some q else f d
theorem cntF_put {f : Nat → Option Eqn} {c : Nat} {q : Eqn} (hz : f c = none) : ∀ {n}, c < n → cntF (putF f c q) n = cntF f n + 1
  | 0, h => by omega
  | n + 1, h => by
    rw [cntF_succ, cntF_succ]
    by_cases e : n = c
    · subst e
      rw [cntF_congr (g := f) (fun d hd => by unfold putF; rw [if_neg (by omega)]), hz, show putF f n q n = some q from if_pos rfl]
      rfl
    · rw [cntF_put hz (by omega), show putF f c q n = f n from if_neg e]
      omega
theorem uF_put {f : Nat → Option Eqn} {n c : Nat} {q : Eqn} : uF (putF f c q) n = upd (uF f n) c (longV q.1 q.2 n) := by
  funext d
  unfold uF putF upd
  by_cases e : d = c
  · rw [if_pos e, if_pos e]
  · rw [if_neg e, if_neg e]

theorem stair_cons {U : Nat → Vec} {n : Nat} (h : Stair U n) : Cons n (stL U n) := fun v hv hz => by
  rcases ech_lead (stNZ_ech h) v ((stNZ_span U n v).2 hv) with e | ⟨r, hr, c, h1, h2⟩
  · exact e
  · obtain ⟨d, hd, hne, rfl⟩ := mem_stNZ.1 hr
    have h3 := (h d hd).resolve_left hne
    have h4 : c = d := h1.unique h3
    subst h4
    have h5 := hz c hd
    rw [h2.1] at h5; cases h5

theorem kind_fresh {U : Nat → Vec} {n c : Nat} {l x : Vec} (h : Stair U n) (hx : Sp (stL U n) (vadd x l)) (hc : c < n) (hz : U c = vzero) (hl : Lead x c) : ¬ Sp ((stL U n).map (proj n)) (proj n l) := fun hs => by
  obtain ⟨v, hv, ev⟩ := Sp_lift hs
  have h1 : Sp (stL U n) (vadd (vadd x l) v) := hx.add hv
  refine stair_new h hz (x := vadd (vadd x l) v) ⟨?_, fun d hd => ?_⟩ h1
  · have := proj_eq ev hc
    simp only [vadd, this, hl.1]
    cases l c <;> rfl
  · have := proj_eq ev (Nat.lt_trans hd hc)
    simp only [vadd, this, hl.2 d hd]
    cases l d <;> rfl
theorem kindV_fresh {U : Nat → Vec} {n c : Nat} {l x : Vec} (h : Stair U n) (hx : Sp (stL U n) (vadd x l)) (hc : c < n) (hz : U c = vzero) (hl : Lead x c) : kindV n (stL U n) l = 1 := if_neg (kind_fresh h hx hc hz hl)
theorem kindV_known {K : List Vec} {n : Nat} {l : Vec} (h : Sp K l) : kindV n K l = 2 := by unfold kindV; rw [if_pos (Sp_proj n h), if_pos h]
theorem proj_zero_of {n : Nat} {x : Vec} (h : ∀ c, c < n → x c = false) : proj n x = vzero := by
  funext c; unfold proj; split
  · exact h c ‹_›
  · rfl
theorem kindV_clash {U : Nat → Vec} {n : Nat} {l x : Vec} (h : Stair U n) (hx : Sp (stL U n) (vadd x l)) (hz : ∀ c, c < n → x c = false) (hne : x ≠ vzero) : kindV n (stL U n) l = 3 := by
  have h1 : Sp ((stL U n).map (proj n)) (proj n l) := by
    have := Sp_proj n hx
    rw [proj_add, proj_zero_of hz, vadd_comm, vadd_zero] at this
    exact this
  have h2 : ¬ Sp (stL U n) l := fun hs => hne (stair_cons h x (hx.of_add hs) hz)
  unfold kindV
  rw [if_pos h1, if_neg h2]
/-- Behind a fresh equation, reduced. -/
theorem stair_snoc {U : Nat → Vec} {n c : Nat} {l x : Vec} (hx : Sp (stL U n) (vadd x l)) (hc : c < n) (hz : U c = vzero) : SpEq (stL (upd U c x) n) (stL U n ++ [l]) :=
  (span_upd hc hz).trans (.of
    (fun s hs => by
      rcases List.mem_append.1 hs with hs | hs
      · exact .mem (List.mem_append.2 (.inl hs))
      · rw [List.mem_singleton.1 hs]
        have h1 : Sp (stL U n ++ [l]) (vadd x l) := hx.sub fun r hr => List.mem_append.2 (.inl hr)
        exact h1.of_add (.mem (List.mem_append.2 (.inr (List.mem_singleton.2 rfl)))))
    (fun s hs => by
      rcases List.mem_append.1 hs with hs | hs
      · exact .mem (List.mem_append.2 (.inl hs))
      · rw [List.mem_singleton.1 hs]
        have h1 : Sp (stL U n ++ [x]) (vadd x l) := hx.sub fun r hr => List.mem_append.2 (.inl hr)
        rw [vadd_comm] at h1
        exact h1.of_add (.mem (List.mem_append.2 (.inr (List.mem_singleton.2 rfl))))))
theorem longV_zero {r s : List Nat} {n : Nat} (hr : bitW r = vzero) (hs : ∀ j, s.getD j 0 = 0) : longV r s n = vzero := by
  funext c
  by_cases h1 : c < n
  · rw [longV_row h1, hr]
  · by_cases h2 : c < n + 8 * s.length
    · obtain ⟨i, b, hi, hb, rfl⟩ : ∃ i b, i < s.length ∧ b < 8 ∧ c = n + 8 * i + b := ⟨(c - n) / 8, (c - n) % 8, by omega, by omega, by omega⟩
      rw [longV_sym hi hb, hs i, Nat.zero_testBit]; rfl
    · exact longV_out (by omega)
theorem longV_ne {r s : List Nat} {n j : Nat} (ho : Octets s) (hs : s.getD j 0 ≠ 0) : longV r s n ≠ vzero := fun e => by
  have hj : j < s.length := by
    by_cases h : j < s.length
    · exact h
    · exact absurd (by simp [List.getD_eq_getElem?_getD, Nat.not_lt.1 h]) hs
  refine hs (Nat.eq_of_testBit_eq fun b => ?_)
  rw [Nat.zero_testBit]
  by_cases hb : b < 8
  · rw [← longV_sym (row := r) (n := n) hj hb, e]; rfl
  · have := ho.getD j
    exact Nat.testBit_lt_two_pow (Nat.lt_of_lt_of_le this (Nat.pow_le_pow_right (n := 2) (by decide) (show 8 ≤ b by omega)))
theorem longV_lead {r s : List Nat} {n c : Nat} (hc : c < n) (h : Lead (bitW r) c) : Lead (longV r s n) c := ⟨by rw [longV_row hc]; exact h.1, fun d hd => by rw [longV_row (by omega)]; exact h.2 d hd⟩
end Go.Proofs.YtkhdjjcflbdegaaGreatDoor
end

section
/- The values from the last one back, no program: a kept equation, and the values behind its least column. -/
namespace Go.Proofs.YtkhdjjcflbdegaaGreatDoor

theorem byteAt_lt (v : Nat → Bool) (q : Nat) : byteAt v q < 256 := by
  unfold byteAt
  simp only [List.range_succ, List.range_zero, List.nil_append, List.foldl_append, List.foldl_cons, List.foldl_nil]
  split <;> split <;> split <;> split <;> split <;> split <;> split <;> split <;> omega
theorem byteAt_bit (v : Nat → Bool) (q : Nat) {b : Nat} (hb : b < 8) : (byteAt v q).testBit b = v (q + b) := by
  have h : ∀ x : Fin 256, byteAt (fun j => x.val.testBit j) 0 = x.val := by decide +kernel
  have e : byteAt v q = byteAt (fun j => v (q + j)) 0 := by unfold byteAt; simp
  have key : ∀ b0 b1 b2 b3 b4 b5 b6 b7 : Bool, ∀ t : Fin 8, (byteAt (fun j => [b0, b1, b2, b3, b4, b5, b6, b7].getD j false) 0).testBit t.val = [b0, b1, b2, b3, b4, b5, b6, b7].getD t.val false := by decide +kernel
  have e2 : byteAt (fun j => v (q + j)) 0 = byteAt (fun j => [v (q + 0), v (q + 1), v (q + 2), v (q + 3), v (q + 4), v (q + 5), v (q + 6), v (q + 7)].getD j false) 0 := by unfold byteAt; simp [List.range_succ]
  rw [e, e2, key _ _ _ _ _ _ _ _ ⟨b, hb⟩]
  match b, hb with
  | 0, _ => rfl
  | 1, _ => rfl
  | 2, _ => rfl
  | 3, _ => rfl
  | 4, _ => rfl
  | 5, _ => rfl
  | 6, _ => rfl
  | 7, _ => rfl
theorem symV_length (n size : Nat) (v : Vec) : (symV n size v).length = size := by simp [symV]
theorem symV_getD {n size i : Nat} (v : Vec) (h : i < size) : (symV n size v).getD i 0 = byteAt v (n + 8 * i) := by simp [symV, List.getD_eq_getElem?_getD, h]
theorem symV_octets (n size : Nat) (v : Vec) : Octets (symV n size v) := fun x hx => by
  obtain ⟨i, _, rfl⟩ := List.mem_map.1 hx
  exact byteAt_lt _ _
theorem symV_add (n size : Nat) (u v : Vec) : symV n size (vadd u v) = xorW (symV n size u) (symV n size v) := by
  have hl : (symV n size u).length = (symV n size v).length := by rw [symV_length, symV_length]
  apply ext_getD (by rw [xorW_length hl, symV_length, symV_length])
  intro i hi
  rw [symV_length] at hi
  rw [xorW_getD hl, symV_getD _ hi, symV_getD _ hi, symV_getD _ hi]
  apply Nat.eq_of_testBit_eq
  intro b
  by_cases hb : b < 8
  · rw [Nat.testBit_xor, byteAt_bit _ _ hb, byteAt_bit _ _ hb, byteAt_bit _ _ hb]; rfl
  · have big : ∀ x : Nat, x < 256 → x.testBit b = false := fun x hx => Nat.testBit_lt_two_pow (Nat.lt_of_lt_of_le hx (Nat.pow_le_pow_right (n := 2) (by decide) (show 8 ≤ b by omega)))
    rw [Nat.testBit_xor, big _ (byteAt_lt _ _), big _ (byteAt_lt _ _), big _ (byteAt_lt _ _)]; rfl

/-- From the least column on, as far as a column. -/
theorem back_to {n size c : Nat} {K : List Vec} {q : Eqn} {V : List (List Nat)} (hq : EqOk n size q) (hl : Lead (bitW q.1) c) (hc : c < n) (hK : Sp K (longV q.1 q.2 n)) (hV : V.getD c [] = q.2)
    (hv : ∀ d, c < d → d < n → ∃ x, ValV n K d x ∧ V.getD d [] = symV n size x) : ∀ m, c + 1 + m ≤ n → ∃ y, Sp K y ∧ (∀ d, d < n → y d = if d = c then true else if d < c + 1 + m then false else bitW q.1 d) ∧ sumS size (pickTo q.1 V (c + 1 + m)) = symV n size y
  | 0, _ => by
    refine ⟨longV q.1 q.2 n, hK, fun d hd => ?_, ?_⟩
    · rw [longV_row hd]
      by_cases e : d = c
      · rw [if_pos e, e]; exact hl.1
      · rw [if_neg e]
        by_cases e2 : d < c + 1 + 0
        · rw [if_pos e2]; exact hl.2 d (by omega)
        · rw [if_neg e2]
    · have hz : ∀ k, k ≤ c → pickTo q.1 V k = [] := by
        intro k
        induction k with
        | zero => intro _; rfl
        | succ k ih => intro hk; rw [pickTo_out (hl.2 k (by omega)), ih (by omega)]
      rw [Nat.add_zero, pickTo_in hl.1, hz c (Nat.le_refl _), hV, List.nil_append, sumS_one hq.2.2.2.1]
      have := symV_long (row := q.1) (n := n) hq.2.2.2.2
      rw [hq.2.2.2.1] at this
      exact this.symm
  | m + 1, hm => by
    obtain ⟨y, h1, h2, h3⟩ := back_to hq hl hc hK hV hv m (by omega)
    cases hb : bitW q.1 (c + 1 + m) with
    | false =>
      refine ⟨y, h1, fun d hd => ?_, by rw [show c + 1 + (m + 1) = c + 1 + m + 1 by omega, pickTo_out hb]; exact h3⟩
      rw [h2 d hd]
      by_cases e : d = c
      · rw [if_pos e, if_pos e]
      · rw [if_neg e, if_neg e]
        by_cases e2 : d < c + 1 + m
        · rw [if_pos e2, if_pos (by omega)]
        · rw [if_neg e2]
          by_cases e3 : d = c + 1 + m
          · rw [if_pos (by omega), e3, hb]
          · rw [if_neg (by omega)]
    | true =>
      obtain ⟨x, hx, hxV⟩ := hv (c + 1 + m) (by omega) (by omega)
      refine ⟨vadd y x, h1.add hx.1, fun d hd => ?_, ?_⟩
      · have hxd : x d = unitV (c + 1 + m) d := by
          have := congrFun hx.2 d
          rwa [proj_low hd] at this
        simp only [vadd, h2 d hd, hxd, unitV]
        by_cases e : d = c
        · rw [if_pos e, if_pos e, decide_eq_false (by omega)]; rfl
        · rw [if_neg e, if_neg e]
          by_cases e2 : d < c + 1 + m
          · rw [if_pos e2, if_pos (by omega), decide_eq_false (by omega)]; rfl
          · rw [if_neg e2]
            by_cases e3 : d = c + 1 + m
            · rw [if_pos (by omega), e3, hb]; simp
            · rw [if_neg (by omega), decide_eq_false e3]; simp
      · rw [show c + 1 + (m + 1) = c + 1 + m + 1 by omega, pickTo_in hb, sumS_snoc (by rw [hxV, symV_length]), h3, hxV, symV_add]
theorem back_val {n size c : Nat} {K : List Vec} {q : Eqn} {V : List (List Nat)} (hq : EqOk n size q) (hl : Lead (bitW q.1) c) (hc : c < n) (hK : Sp K (longV q.1 q.2 n)) (hV : V.getD c [] = q.2)
    (hv : ∀ d, c < d → d < n → ∃ x, ValV n K d x ∧ V.getD d [] = symV n size x) : ∃ x, ValV n K c x ∧ sumS size (pickTo q.1 V n) = symV n size x := by
  obtain ⟨y, h1, h2, h3⟩ := back_to hq hl hc hK hV hv (n - (c + 1)) (by omega)
  rw [show c + 1 + (n - (c + 1)) = n by omega] at h3
  refine ⟨y, ⟨h1, ?_⟩, h3⟩
  funext d
  unfold proj unitV
  by_cases hd : d < n
  · rw [if_pos hd, h2 d hd]
    by_cases e : d = c
    · rw [if_pos e, decide_eq_true e]
    · rw [if_neg e, if_pos (by omega), decide_eq_false e]
  · rw [if_neg hd, decide_eq_false (by omega)]
end Go.Proofs.YtkhdjjcflbdegaaGreatDoor
end

section
/- Mathematics of package system: the rows of a block, by its seed; their rank; the systems of equations that they make, and what these tell. -/
namespace Go.Proofs.YtkhdjjcflbdegaaGreatDoor

/-! ### the rows -/
theorem tr_len {l p st a : Nat} : ∀ n d, d ≤ (trW l p st a n).length → ∃ j, j ≤ n ∧ (trW l p st a j).length = d
  | 0, d, h => ⟨0, Nat.le_refl _, by rw [trW_zero] at h ⊢; simp at h; simp [h]⟩
  | n + 1, d, h => by
    by_cases hd : d ≤ (trW l p st a n).length
    · obtain ⟨j, h1, h2⟩ := tr_len n d hd
      exact ⟨j, by omega, h2⟩
    · refine ⟨n + 1, Nat.le_refl _, ?_⟩
      have : (trW l p st a (n + 1)).length ≤ (trW l p st a n).length + 1 := by
        rw [trW_succ, List.length_append]
        split <;> simp
      omega
theorem tr_ex {l p st a d : Nat} (hp : IsP p) (h1 : 1 ≤ st) (h2 : st < p) (hl : l ≤ p) (hd : d ≤ l) : ∃ W, IsTr l p st a d W := by
  obtain ⟨j, h3, h4⟩ := tr_len (l := l) (p := p) (st := st) (a := a) p d (by rw [trW_all hp h1 h2 hl]; exact hd)
  exact ⟨_, h4, j, h3, rfl⟩
open Classical in
/-- The walk of an encoding symbol, by a seed. -/
noncomputable def walkE (l p seed e : Nat) : List Nat := if h : ∃ W, IsTr l p (trS p (mixN e seed)) (trA p (mixN e seed)) (trD l (mixN e seed)) W then Classical.choose h else []
theorem walkE_eq {l p seed e : Nat} {W : List Nat} (h : IsTr l p (trS p (mixN e seed)) (trA p (mixN e seed)) (trD l (mixN e seed)) W) : walkE l p seed e = W := by
  have hx : ∃ W, IsTr l p (trS p (mixN e seed)) (trA p (mixN e seed)) (trD l (mixN e seed)) W := ⟨W, h⟩
  unfold walkE
  rw [dif_pos hx]
  exact (Classical.choose_spec hx).unique h
theorem walkE_is {k s h l p : Nat} (H : OfP k s h l p) (hk1 : 1 ≤ k) (hk2 : k ≤ 128) (seed e : Nat) : IsTr l p (trS p (mixN e seed)) (trA p (mixN e seed)) (trD l (mixN e seed)) (walkE l p seed e) := by
  obtain ⟨b1, b2, b3, b4, b5, b6, b7⟩ := H.bounds hk1 hk2
  have hp2 : 2 ≤ p := H.2.2.2.two
  have hl1 : 1 ≤ l := by have := H.2.2.1; omega
  obtain ⟨W, hW⟩ := tr_ex (l := l) (p := p) (st := trS p (mixN e seed)) (a := trA p (mixN e seed)) (d := trD l (mixN e seed)) H.2.2.2.1 (trS_bd hp2).1 (trS_bd hp2).2 b6 (trD_bd hl1).2
  rw [walkE_eq hW]
  exact hW
/-- The row of an encoding symbol: its places, rising. -/
noncomputable def rowE (l p seed e : Nat) : List Nat := risN l (walkE l p seed e)
theorem rowE_lt {l p seed e : Nat} : ∀ c ∈ rowE l p seed e, c < l := fun _ hc => (mem_risN.1 hc).1
theorem rowE_nodup (l p seed e : Nat) : (rowE l p seed e).Nodup := risN_nodup _ _
theorem rowE_len (l p seed e : Nat) : (rowE l p seed e).length ≤ l := by
  unfold rowE risN
  exact Nat.le_trans (List.length_filter_le _ _) (by simp)
theorem rowE_vec {k s h l p : Nat} (H : OfP k s h l p) (hk1 : 1 ≤ k) (hk2 : k ≤ 128) (seed e : Nat) : rowVec (rowE l p seed e) = rowVec (walkE l p seed e) := by
  funext c
  unfold rowVec rowE
  rw [decide_eq_decide, mem_risN]
  exact ⟨fun h => h.2, fun h => ⟨(walkE_is H hk1 hk2 seed e).lt h, h⟩⟩
/-- The numbers of the other rows' weight. -/
noncomputable def graysE (k s h : Nat) : List Nat := Classical.choose (gr_ex ((h + 1) / 2) (k + s))
theorem graysE_is (k s h : Nat) : IsGr ((h + 1) / 2) (k + s) (graysE k s h) := Classical.choose_spec (gr_ex ((h + 1) / 2) (k + s))
theorem graysE_eq {k s h : Nat} {g : List Nat} (hg : IsGr ((h + 1) / 2) (k + s) g) : g = graysE k s h := hg.unique (graysE_is k s h)
/-- The rows of the precode. -/
noncomputable def rowsF0 (k s h : Nat) : List (List Nat) := rowsP k s h (graysE k s h)
/-- The rows of a block with some encoding symbols. -/
noncomputable def rowsA (k s h l p seed : Nat) (es : List Nat) : List (List Nat) := rowsF0 k s h ++ es.map (rowE l p seed)
theorem rowsF0_length (k s h : Nat) : (rowsF0 k s h).length = s + h := rowsP_length _ _ _ _
theorem rowsA_length (k s h l p seed : Nat) (es : List Nat) : (rowsA k s h l p seed es).length = s + h + es.length := by
  unfold rowsA
  rw [List.length_append, rowsF0_length, List.length_map]
theorem rowsA_snoc (k s h l p seed : Nat) (es : List Nat) (e : Nat) : rowsA k s h l p seed (es ++ [e]) = rowsA k s h l p seed es ++ [rowE l p seed e] := by
  unfold rowsA
  rw [List.map_append, List.append_assoc]
  rfl
theorem rowsA_nil (k s h l p seed : Nat) : rowsA k s h l p seed [] = rowsF0 k s h := by simp [rowsA]
theorem rowsF0_getD {k s h i : Nat} (hi : i < (rowsF0 k s h).length) : ∀ r, r = (rowsF0 k s h).getD i [] → (∀ c ∈ r, c < k + s + h) ∧ r.Nodup := fun r e => by
  rw [rowsF0_length] at hi
  subst e
  exact ⟨fun c hc => row_lt hi hc, row_nodup hi⟩
theorem rowsF0_in {k s h : Nat} : ∀ r ∈ rowsF0 k s h, (∀ c ∈ r, c < k + s + h) ∧ r.Nodup := fun r hr => by
  obtain ⟨i, hi, rfl⟩ := List.getElem_of_mem hr
  exact rowsF0_getD hi _ (by simp [List.getD_eq_getElem?_getD, hi])
theorem rowsA_in {k s h l p seed : Nat} {es : List Nat} (hl : l = k + s + h) : ∀ r ∈ rowsA k s h l p seed es, (∀ c ∈ r, c < l) ∧ r.Nodup := fun r hr => by
  rcases List.mem_append.1 hr with hr | hr
  · rw [hl]; exact rowsF0_in r hr
  · obtain ⟨e, _, rfl⟩ := List.mem_map.1 hr
    exact ⟨rowE_lt, rowE_nodup _ _ _ _⟩
theorem bitW_packR {n : Nat} {r : List Nat} (hr : ∀ c ∈ r, c < n) : bitW (packR n r) = rowVec r := funext fun c => packR_bit hr c
theorem vecs_packL {n : Nat} {R : List (List Nat)} (h : ∀ r ∈ R, ∀ c ∈ r, c < n) : vecs (packL n R) = R.map rowVec := by
  unfold vecs packL
  rw [List.map_map]
  exact List.map_congr_left fun r hr => bitW_packR (h r hr)
theorem packL_append (n : Nat) (A B : List (List Nat)) : packL n (A ++ B) = packL n A ++ packL n B := by simp [packL]
theorem packL_length (n : Nat) (R : List (List Nat)) : (packL n R).length = R.length := by simp [packL]
theorem packL_getD (n : Nat) (R : List (List Nat)) {i : Nat} (hi : i < R.length) : (packL n R).getD i [] = packR n (R.getD i []) := by
  unfold packL
  simp [List.getD_eq_getElem?_getD, hi]

/-! ### the rank -/
noncomputable def rankA (k s h l p seed : Nat) (es : List Nat) : Nat := rk ((rowsA k s h l p seed es).map rowVec)
theorem rk_snoc_le (A : List Vec) (v : Vec) : rk (A ++ [v]) ≤ rk A + 1 := by
  by_cases h : Sp A v
  · rw [rk_in h]; omega
  · rw [rk_out h]; omega
theorem rk_append_le (A : List Vec) : ∀ B : List Vec, rk (A ++ B) ≤ rk A + B.length := by
  intro B
  induction B generalizing A with
  | nil => simp
  | cons v B ih =>
    have := ih (A ++ [v])
    have h2 := rk_snoc_le A v
    rw [List.append_assoc, List.singleton_append] at this
    rw [List.length_cons]
    omega
theorem rk_cut {A B : List Vec} (h : rk (A ++ B) = (A ++ B).length) : rk A = A.length := by
  have h1 := rk_append_le A B
  have h2 := rk_le_length A
  rw [List.length_append] at h
  omega
theorem rank_le (k s h l p seed : Nat) (es : List Nat) : rankA k s h l p seed es ≤ s + h + es.length := by
  have := rk_le_length ((rowsA k s h l p seed es).map rowVec)
  rw [List.length_map, rowsA_length] at this
  exact this
theorem rank_F0 (k s h : Nat) : rk ((rowsF0 k s h).map rowVec) = s + h := by
  have : rk (vecs (packL (k + s + h) (rowsF0 k s h))) = s + h := rows_rank k s h (graysE k s h)
  rw [vecs_packL fun r hr => (rowsF0_in r hr).1] at this
  exact this
/-- The seed of K. -/
def IsSeed (k s h l p seed : Nat) : Prop := seed < 65536 ∧ rankA k s h l p seed (List.range k) = l ∧ ∀ t, t < seed → rankA k s h l p t (List.range k) ≠ l
theorem IsSeed.unique {k s h l p a b : Nat} (ha : IsSeed k s h l p a) (hb : IsSeed k s h l p b) : a = b := by
  obtain ⟨-, a1, a2⟩ := ha
  obtain ⟨-, b1, b2⟩ := hb
  rcases Nat.lt_trichotomy a b with h | h | h
  · exact absurd a1 (b2 a h)
  · exact h
  · exact absurd b1 (a2 b h)
theorem isSeed_ex {k s h l p : Nat} (H : OfP k s h l p) (hk1 : 1 ≤ k) (hk2 : k ≤ 128) : ∃ seed, IsSeed k s h l p seed := by
  obtain ⟨seed, h1, h2⟩ := seed_ex hk1 hk2 H
  have h3 : rankA k s h l p seed (List.range k) = l := by
    have := h2 (graysE k s h) (graysE_is k s h) (fun e => walkE l p seed e) (fun e _ => walkE_is H hk1 hk2 seed e)
    refine Eq.trans (congrArg rk ?_) this
    unfold rowsA rowsF0
    rw [List.map_append, List.map_append, List.map_map, List.map_map]
    congr 1
    exact List.map_congr_left fun e _ => rowE_vec H hk1 hk2 seed e
  obtain ⟨m, g1, g2, g3⟩ := least_nat (fun t => rankA k s h l p t (List.range k) = l) seed h3
  exact ⟨m, Nat.lt_of_le_of_lt g3 h1, g1, g2⟩

/-! ### the equations -/
def eqL (l : Nat) (r y : List Nat) : Vec := longV (packR l r) y l
theorem eqL_proj {l : Nat} {r y : List Nat} (h : ∀ c ∈ r, c < l) : proj l (eqL l r y) = rowVec r := by
  unfold eqL
  rw [longV_proj, bitW_packR h]
  intro c hc
  rw [packR_bit h, decide_eq_false_iff_not]
  intro hm
  have := h c hm
  omega
theorem packR_word (l : Nat) (r : List Nat) : Word (packR l r) := (packR_packs l r).2.1
theorem packR_len (l : Nat) (r : List Nat) : (packR l r).length = kOf l := (packR_packs l r).1
theorem eqL_ok {l size : Nat} {r y : List Nat} (h : ∀ c ∈ r, c < l) (hy : y.length = size) (ho : Octets y) : EqOk l size (packR l r, y) :=
  ⟨packR_len l r, packR_word l r, fun c hc => by
    rw [packR_bit h, decide_eq_false_iff_not]
    intro hm
    have := h c hm
    omega, hy, ho⟩
/-- The precode's equations; those of source symbols behind them. -/
noncomputable def sysF (k s h l size : Nat) : List Vec := (rowsF0 k s h).map fun r => eqL l r (List.replicate size 0)
noncomputable def sysE (k s h l p seed size : Nat) (src : Nat → List Nat) (j : Nat) : List Vec := sysF k s h l size ++ (List.range j).map fun e => eqL l (rowE l p seed e) (src e)
theorem sysE_zero (k s h l p seed size : Nat) (src : Nat → List Nat) : sysE k s h l p seed size src 0 = sysF k s h l size := by simp [sysE]
theorem sysE_succ (k s h l p seed size : Nat) (src : Nat → List Nat) (j : Nat) : sysE k s h l p seed size src (j + 1) = sysE k s h l p seed size src j ++ [eqL l (rowE l p seed j) (src j)] := by
  unfold sysE
  rw [List.range_succ, List.map_append, List.append_assoc]
  rfl
theorem sysF_proj {k s h l size : Nat} (hl : l = k + s + h) : (sysF k s h l size).map (proj l) = (rowsF0 k s h).map rowVec := by
  unfold sysF
  rw [List.map_map]
  exact List.map_congr_left fun r hr => eqL_proj (by rw [hl]; exact (rowsF0_in r hr).1)
theorem sysE_proj {k s h l p seed size : Nat} {src : Nat → List Nat} (hl : l = k + s + h) (j : Nat) : (sysE k s h l p seed size src j).map (proj l) = (rowsA k s h l p seed (List.range j)).map rowVec := by
  unfold sysE rowsA
  rw [List.map_append, List.map_append, sysF_proj hl]
  congr 1
  rw [List.map_map, List.map_map]
  exact List.map_congr_left fun e _ => eqL_proj rowE_lt
/-- One more is fresh just if the rank is one more. -/
theorem fresh_iff {k s h l p seed size j : Nat} {src : Nat → List Nat} {y : List Nat} (hl : l = k + s + h) (hr : rankA k s h l p seed (List.range j) = s + h + j) :
    (kindV l (sysE k s h l p seed size src j) (eqL l (rowE l p seed j) y) = 1 → rankA k s h l p seed (List.range (j + 1)) = s + h + (j + 1)) ∧
    (kindV l (sysE k s h l p seed size src j) (eqL l (rowE l p seed j) y) ≠ 1 → ∀ m, j < m → rankA k s h l p seed (List.range m) ≠ s + h + m) := by
  have e1 : rankA k s h l p seed (List.range (j + 1)) = rk ((rowsA k s h l p seed (List.range j)).map rowVec ++ [rowVec (rowE l p seed j)]) := by
    unfold rankA
    rw [List.range_succ, rowsA_snoc, List.map_append]
    rfl
  unfold kindV
  rw [sysE_proj hl, eqL_proj rowE_lt]
  constructor
  · intro hk
    have hn : ¬ Sp ((rowsA k s h l p seed (List.range j)).map rowVec) (rowVec (rowE l p seed j)) := fun hs => by
      rw [if_pos hs] at hk
      split at hk <;> omega
    rw [e1, rk_out hn]
    have : rk ((rowsA k s h l p seed (List.range j)).map rowVec) = s + h + j := hr
    omega
  · intro hk m hm hf
    have hs : Sp ((rowsA k s h l p seed (List.range j)).map rowVec) (rowVec (rowE l p seed j)) := Classical.byContradiction fun hs => hk (if_neg hs)
    have e2 : rankA k s h l p seed (List.range (j + 1)) = s + h + j := by
      rw [e1, rk_in hs]
      exact hr
    obtain ⟨d, rfl⟩ : ∃ d, m = j + 1 + d := ⟨m - (j + 1), by omega⟩
    have e3 : rowsA k s h l p seed (List.range (j + 1 + d)) = rowsA k s h l p seed (List.range (j + 1)) ++ ((List.range d).map (fun t => j + 1 + t)).map (rowE l p seed) := by
      unfold rowsA
      rw [List.range_add, List.map_append, List.append_assoc]
    have e4 : rankA k s h l p seed (List.range (j + 1 + d)) ≤ rankA k s h l p seed (List.range (j + 1)) + d := by
      unfold rankA
      rw [e3, List.map_append]
      refine Nat.le_trans (rk_append_le _ _) ?_
      simp
    omega
theorem rank_F (k s h l p seed : Nat) : rankA k s h l p seed (List.range 0) = s + h + 0 := by
  unfold rankA
  rw [show List.range 0 = [] from rfl, rowsA_nil, rank_F0]
  rfl
/-- The precode's equations are all fresh. -/
theorem freshF {k s h l size i : Nat} (hl : l = k + s + h) (hi : i < s + h) (y : List Nat) : kindV l (((rowsF0 k s h).take i).map fun r => eqL l r (List.replicate size 0)) (eqL l ((rowsF0 k s h).getD i []) y) = 1 := by
  have hlen := rowsF0_length k s h
  have hin : i < (rowsF0 k s h).length := by omega
  have hp : (((rowsF0 k s h).take i).map fun r => eqL l r (List.replicate size 0)).map (proj l) = ((rowsF0 k s h).take i).map rowVec := by
    rw [List.map_map]
    exact List.map_congr_left fun r hr => eqL_proj (by rw [hl]; exact (rowsF0_in r (List.mem_of_mem_take hr)).1)
  have hg := rowsF0_getD hin _ rfl
  unfold kindV
  rw [hp, eqL_proj (by rw [hl]; exact hg.1), if_neg]
  intro hs
  have h1 := rank_F0 k s h
  have e : (rowsF0 k s h).map rowVec = (((rowsF0 k s h).take i).map rowVec ++ [rowVec ((rowsF0 k s h).getD i [])]) ++ ((rowsF0 k s h).drop (i + 1)).map rowVec := by
    rw [List.append_assoc, List.singleton_append, ← List.map_cons, ← List.map_append]
    congr 1
    have : (rowsF0 k s h).getD i [] = (rowsF0 k s h)[i] := by simp [List.getD_eq_getElem?_getD, hin]
    rw [this, ← List.drop_eq_getElem_cons hin, List.take_append_drop]
  rw [e] at h1
  have h2 := rk_cut (h1.trans (by rw [← e, List.length_map, hlen]))
  rw [rk_in hs, List.length_append, List.length_singleton] at h2
  have := rk_le_length (((rowsF0 k s h).take i).map rowVec)
  omega
theorem takeF_succ {k s h l size i : Nat} (hi : i < s + h) : (((rowsF0 k s h).take (i + 1)).map fun r => eqL l r (List.replicate size 0)) = (((rowsF0 k s h).take i).map fun r => eqL l r (List.replicate size 0)) ++ [eqL l ((rowsF0 k s h).getD i []) (List.replicate size 0)] := by
  have hlen := rowsF0_length k s h
  have hin : i < (rowsF0 k s h).length := by omega
  rw [List.take_succ_eq_append_getElem hin, List.map_append]
  simp [List.getD_eq_getElem?_getD, hin]
theorem takeF_all {k s h l size : Nat} : (((rowsF0 k s h).take (s + h)).map fun r => eqL l r (List.replicate size 0)) = sysF k s h l size := by
  unfold sysF
  rw [List.take_of_length_le (by rw [rowsF0_length]; omega)]

/-! ### what is known -/
/-- Middle symbols as a system tells them. -/
def Tells (l size : Nat) (K : List Vec) (V : List (List Nat)) : Prop := V.length = l ∧ ∀ c, c < l → ∃ x, ValV l K c x ∧ V.getD c [] = symV l size x
theorem Tells.row {l size : Nat} {K : List Vec} {V : List (List Nat)} (h : Tells l size K V) : ∀ r ∈ V, r.length = size ∧ Octets r := fun r hr => by
  obtain ⟨i, hi, rfl⟩ := List.getElem_of_mem hr
  obtain ⟨x, -, e⟩ := h.2 i (by rw [← h.1]; exact hi)
  rw [List.getD_eq_getElem?_getD, List.getElem?_eq_getElem hi, Option.getD_some] at e
  rw [e]
  exact ⟨symV_length _ _ _, symV_octets _ _ _⟩
theorem rowVec_nil : rowVec [] = vzero := funext fun c => by simp [rowVec, vzero]
theorem rowVec_snoc {r : List Nat} {c : Nat} (h : c ∉ r) : rowVec (r ++ [c]) = vadd (rowVec r) (unitV c) := funext fun d => by
  unfold rowVec vadd unitV
  by_cases h1 : d = c
  · subst h1; simp [h]
  · by_cases h2 : d ∈ r <;> simp [h1, h2]
theorem Tells.sum {l size : Nat} {K : List Vec} {V : List (List Nat)} (h : Tells l size K V) : ∀ r : List Nat, (∀ c ∈ r, c < l) → r.Nodup → ∃ x, Sp K x ∧ proj l x = rowVec r ∧ sumS size (r.map fun c => V.getD c []) = symV l size x := by
  intro r
  induction hn : r.length generalizing r with
  | zero =>
    intro _ _
    obtain rfl := List.eq_nil_of_length_eq_zero hn
    refine ⟨vzero, Sp.zero _, by rw [proj_zero, rowVec_nil], ?_⟩
    rw [List.map_nil, sumS_nil]
    apply ext_getD (by rw [symV_length]; simp)
    intro i hi
    have hi' : i < size := by simpa using hi
    rw [symV_getD _ hi', byteAt_byte (x := 0) (by decide) (fun b _ => by simp [vzero])]
    simp [List.getD_eq_getElem?_getD, hi']
  | succ n ih =>
    intro hlt hnd
    obtain ⟨r, c, rfl⟩ : ∃ q c, r = q ++ [c] := ⟨r.dropLast, r.getLast (by intro e; simp [e] at hn), (List.dropLast_concat_getLast _).symm⟩
    rw [List.length_append, List.length_singleton] at hn
    have hnd2 := List.nodup_append.1 hnd
    obtain ⟨x, h1, h2, h3⟩ := ih r (by omega) (fun d hd => hlt d (List.mem_append_left _ hd)) hnd2.1
    obtain ⟨y, h4, h5⟩ := h.2 c (hlt c (by simp))
    have hc : c ∉ r := fun hm => hnd2.2.2 c hm c (by simp) rfl
    refine ⟨vadd x y, h1.add h4.1, by rw [proj_add, h2, h4.2, rowVec_snoc hc], ?_⟩
    rw [List.map_append, List.map_singleton, sumS_snoc (by rw [h5, symV_length]), h3, h5, symV_add]
/-- Each equation holds of what is told. -/
theorem Tells.holds {l size : Nat} {K : List Vec} {V : List (List Nat)} (h : Tells l size K V) (hc : Cons l K) {r y : List Nat} (hr : ∀ c ∈ r, c < l) (hd : r.Nodup) (hy : y.length = size) (ho : Octets y) (hm : Sp K (eqL l r y)) :
    sumS size (r.map fun c => V.getD c []) = y := by
  obtain ⟨x, h1, h2, h3⟩ := h.sum r hr hd
  have e : x = eqL l r y := hc.unique h1 hm (by rw [h2, eqL_proj hr])
  rw [h3, e]
  have := symV_long (row := packR l r) (sym := y) (n := l) ho
  rw [hy] at this
  exact this
theorem mem_sysF {k s h l size i : Nat} (hi : i < s + h) : eqL l ((rowsF0 k s h).getD i []) (List.replicate size 0) ∈ sysF k s h l size := by
  have hlen := rowsF0_length k s h
  have hin : i < (rowsF0 k s h).length := by omega
  refine List.mem_map.2 ⟨_, List.getElem_mem hin, ?_⟩
  simp [List.getD_eq_getElem?_getD, hin]
theorem mem_sysE {k s h l p seed size j e : Nat} {src : Nat → List Nat} (he : e < j) : eqL l (rowE l p seed e) (src e) ∈ sysE k s h l p seed size src j :=
  List.mem_append_right _ (List.mem_map.2 ⟨e, List.mem_range.2 he, rfl⟩)
theorem octets_zero (size : Nat) : Octets (List.replicate size 0) := Octets.replicate size

/-! ### sums of source symbols -/
def mixV (l : Nat) (u v : Vec) : Vec := fun c => if c < l then u c else u c ^^ v c
theorem mixV_add (l : Nat) (u v a b : Vec) : mixV l (vadd u a) (vadd v b) = vadd (mixV l u v) (mixV l a b) := funext fun c => by
  unfold mixV vadd
  by_cases h : c < l
  · simp [h]
  · simp only [if_neg h]
    cases u c <;> cases v c <;> cases a c <;> cases b c <;> rfl
theorem mixV_zero (l : Nat) : mixV l vzero vzero = vzero := funext fun c => by unfold mixV vzero; split <;> rfl
theorem mixV_proj (l : Nat) (u v : Vec) : proj l (mixV l u v) = proj l u := funext fun c => by
  unfold proj mixV
  by_cases h : c < l <;> simp [h]
theorem mixV_sym (l size : Nat) (u v : Vec) : symV l size (mixV l u v) = xorW (symV l size u) (symV l size v) := by
  rw [← symV_add]
  unfold symV
  refine List.map_congr_left fun i _ => ?_
  refine byteAt_byte (byteAt_lt _ _) fun b hb => ?_
  rw [byteAt_bit _ _ hb]
  unfold mixV vadd
  rw [if_neg (by omega)]
theorem mixV_eq {l : Nat} {r a b : List Nat} (hab : a.length = b.length) : mixV l (eqL l r a) (eqL l r b) = eqL l r (xorW a b) := funext fun c => by
  unfold mixV eqL
  by_cases h : c < l
  · rw [if_pos h, longV_row h, longV_row h]
  · rw [if_neg h]
    by_cases h2 : c < l + 8 * a.length
    · obtain ⟨i, q, hi, hq, e⟩ : ∃ i q, i < a.length ∧ q < 8 ∧ c = l + 8 * i + q := ⟨(c - l) / 8, (c - l) % 8, by omega, by omega, by omega⟩
      subst e
      rw [longV_sym hi hq, longV_sym (by omega) hq, longV_sym (by rw [xorW_length hab]; exact hi) hq, xorW_getD hab, Nat.testBit_xor]
    · rw [longV_out (by omega), longV_out (by omega), longV_out (by rw [xorW_length hab]; omega)]; rfl
theorem xor_zeros (size : Nat) : xorW (List.replicate size 0) (List.replicate size 0) = List.replicate size 0 := by
  apply ext_getD (by rw [xorW_length rfl])
  intro i hi
  have hi' : i < size := by rw [xorW_length rfl] at hi; simpa using hi
  rw [xorW_getD rfl]
  simp [List.getD_eq_getElem?_getD, hi']
theorem sums_span {k s h l p seed size j : Nat} {a b : Nat → List Nat} (hab : ∀ e, e < j → (a e).length = (b e).length) {x : Vec} (hl : l = k + s + h) (hx : Sp ((rowsA k s h l p seed (List.range j)).map rowVec) x) :
    ∃ u v, Sp (sysE k s h l p seed size a j) u ∧ Sp (sysE k s h l p seed size b j) v ∧ Sp (sysE k s h l p seed size (fun e => xorW (a e) (b e)) j) (mixV l u v) ∧ proj l u = x ∧ proj l v = x := by
  refine hx (fun x => ∃ u v, Sp (sysE k s h l p seed size a j) u ∧ Sp (sysE k s h l p seed size b j) v ∧ Sp (sysE k s h l p seed size (fun e => xorW (a e) (b e)) j) (mixV l u v) ∧ proj l u = x ∧ proj l v = x) ⟨?_, ?_⟩ ?_
  · exact ⟨vzero, vzero, Sp.zero _, Sp.zero _, by rw [mixV_zero]; exact Sp.zero _, proj_zero _, proj_zero _⟩
  · rintro x y ⟨u, v, h1, h2, h3, h4, h5⟩ ⟨u', v', g1, g2, g3, g4, g5⟩
    exact ⟨vadd u u', vadd v v', h1.add g1, h2.add g2, by rw [mixV_add]; exact h3.add g3, by rw [proj_add, h4, g4], by rw [proj_add, h5, g5]⟩
  · intro r hr
    obtain ⟨q, hq, rfl⟩ := List.mem_map.1 hr
    rcases List.mem_append.1 hq with hq | hq
    · have hb : ∀ c ∈ q, c < l := by rw [hl]; exact (rowsF0_in q hq).1
      have hm : ∀ src, Sp (sysE k s h l p seed size src j) (eqL l q (List.replicate size 0)) := fun src => .mem (List.mem_append_left _ (List.mem_map.2 ⟨q, hq, rfl⟩))
      exact ⟨_, _, hm a, hm b, by rw [mixV_eq rfl, xor_zeros]; exact hm _, eqL_proj hb, eqL_proj hb⟩
    · obtain ⟨e, he, rfl⟩ := List.mem_map.1 hq
      have he := List.mem_range.1 he
      exact ⟨_, _, .mem (mem_sysE he), .mem (mem_sysE he), by rw [mixV_eq (hab e he)]; exact .mem (mem_sysE (src := fun e => xorW (a e) (b e)) he), eqL_proj rowE_lt, eqL_proj rowE_lt⟩
/-- Sums of source symbols have the sums of what is told. -/
theorem tells_sum {k s h l p seed size j : Nat} {a b : Nat → List Nat} {A B C : List (List Nat)} (hab : ∀ e, e < j → (a e).length = (b e).length) (hl : l = k + s + h)
    (hA : Tells l size (sysE k s h l p seed size a j) A) (hB : Tells l size (sysE k s h l p seed size b j) B) (hC : Tells l size (sysE k s h l p seed size (fun e => xorW (a e) (b e)) j) C)
    (cA : Cons l (sysE k s h l p seed size a j)) (cB : Cons l (sysE k s h l p seed size b j)) (cC : Cons l (sysE k s h l p seed size (fun e => xorW (a e) (b e)) j)) {c : Nat} (hc : c < l) :
    xorW (A.getD c []) (B.getD c []) = C.getD c [] := by
  obtain ⟨x, hx, eA⟩ := hA.2 c hc
  obtain ⟨y, hy, eB⟩ := hB.2 c hc
  obtain ⟨z, hz, eC⟩ := hC.2 c hc
  have hk := hx.known
  rw [sysE_proj hl] at hk
  obtain ⟨u, v, h1, h2, h3, h4, h5⟩ := sums_span (size := size) hab hl hk
  have e1 : x = u := cA.unique hx.1 h1 (by rw [hx.2, h4])
  have e2 : y = v := cB.unique hy.1 h2 (by rw [hy.2, h5])
  have e3 : z = mixV l u v := cC.unique hz.1 h3 (by rw [hz.2, mixV_proj, h4])
  rw [eA, eB, eC, e1, e2, e3, mixV_sym]
end Go.Proofs.YtkhdjjcflbdegaaGreatDoor
end
