import Derived.Test.YtkfimdpcadbcpaaGreatDoorA02
import Derived.Test.YtkfimdpcadbcpaaGreatDoorA03
import Derived.Test.YtkfimdpcadbcpaaGreatDoorA01
import Derived.Test.YtkfimdpcadbcpaaGreatDoorChecked
set_option linter.unusedSimpArgs false
set_option linter.unusedVariables false
set_option maxRecDepth 1000000
set_option maxHeartbeats 8000000
namespace Go.Proofs.YtkfimdpcadbcpaaGreatDoor
section
structure Snd where
  ses : Nat
  g : Nat
  n : Nat
  b : Nat
  k : Nat
  base : Nat
  burst : Nat
  every : Nat
  size : Nat
  blocks : Nat
  long : Nat
  short : Nat
  sym : Nat → Nat → List Nat
structure SndOk (s : Snd) : Prop where
  ses : s.ses ≤ 65535
  g1 : 1 ≤ s.g
  g8 : s.g ≤ 8
  n1 : 1 ≤ s.n
  n2 : s.n ≤ 65536
  base1 : 2 ≤ s.base
  base2 : s.base ≤ 4096
  u1 : 1 ≤ s.burst
  u2 : s.burst < s.base
  e1 : 1 ≤ s.every
  e2 : s.every ≤ 4096
  plan : PlanOf s.size s.b s.k s.blocks s.long s.short
  b16 : s.blocks ≤ 16
  dvd : s.n % 2 ^ (s.g - 1) = 0
  src : cntP s.long s.short 0 ≤ s.n
  rate : 2 * rateN (s.g - 1) * (s.n / 2 ^ (s.g - 1)) * s.blocks ≤ 4096
  sym : ∀ i e, i < s.blocks → (s.sym i e).length = s.b ∧ Octets (s.sym i e)
theorem SndOk.pl {s : Snd} (h : SndOk s) : PlanOk s.size s.b s.blocks s.long s.short := h.plan.ok h.b16
def annP (s : Snd) (t : Nat) : Pkt := ⟨2, s.ses, 0, t, false, 0, 0, 0, 0, 0, [], s.size, s.b, s.blocks, s.long, s.short, s.g, s.n, s.base, s.burst⟩
def esiS (s : Snd) (k x : Nat) : List Nat := stEsiL (s.g - 1 - k) k x (s.n / 2 ^ (s.g - 1))
def rowS (s : Snd) (t : Nat) : List Nat := rowZ s.base s.burst t
def manyS (s : Snd) (t k : Nat) : Nat := (rowS s t).length * (rateN k * (s.n / 2 ^ (s.g - 1))) * s.blocks
def sdP (s : Snd) (t k many place i e : Nat) : Pkt := ⟨1, s.ses, k, t, burstB s.base s.burst t, syncZ s.base (t + 1) s.g, many, place, i, e, s.sym i e, 0, 0, 0, 0, 0, 0, 0, 0, 0⟩
def blkL (s : Snd) (e : Nat) : List (Nat × Nat) := (List.range s.blocks).map fun i => (e, i)
def esiL (s : Snd) (L : List Nat) : List (Nat × Nat) := L.flatMap (blkL s)
def stpL (s : Snd) (k : Nat) (X : List Nat) : List (Nat × Nat) := X.flatMap fun x => esiL s (esiS s k x)
def datL (s : Snd) (t k : Nat) (l : List (Nat × Nat)) : List Pkt := l.mapIdx fun j x => sdP s t k (manyS s t k) j x.2 x.1
def layP (s : Snd) (t k : Nat) : List Pkt := datL s t k (stpL s k (rowS s t))
def annL (s : Snd) (t : Nat) : List Pkt := if t % s.every = 0 then [annP s t] else []
def packL19 (s : Snd) (t : Nat) : List Pkt := annL s t ++ (List.range s.g).flatMap (layP s t)
theorem zJm (s : Snd) (t k : Nat) (l : List (Nat × Nat)) (x : Nat × Nat) : datL s t k (l ++ [x]) = datL s t k l ++ [sdP s t k (manyS s t k) l.length x.2 x.1] := by
  unfold datL
  rw [List.mapIdx_append]
  simp
theorem zBO (s : Snd) (t k : Nat) (l : List (Nat × Nat)) : (datL s t k l).length = l.length := by simp [datL]
theorem zBJ (s : Snd) (k x : Nat) : (esiS s k x).length = rateN k * (s.n / 2 ^ (s.g - 1)) := by
  unfold esiS stEsiL
  rw [zA6, zDb]
theorem zBW (s : Snd) (e : Nat) : (blkL s e).length = s.blocks := by simp [blkL]
theorem zAZ {α β : Type} {f : α → List β} {c : Nat} (h : ∀ a, (f a).length = c) : ∀ l : List α, (l.flatMap f).length = l.length * c
  | [] => by simp
  | a :: l => by rw [List.flatMap_cons, List.length_append, h, zAZ h l, List.length_cons, Nat.succ_mul, Nat.add_comm]
theorem zBP (s : Snd) (L : List Nat) : (esiL s L).length = L.length * s.blocks := zAZ (zBW s) L
theorem zCU (s : Snd) (k : Nat) (X : List Nat) : (stpL s k X).length = X.length * (rateN k * (s.n / 2 ^ (s.g - 1))) * s.blocks := by
  rw [Nat.mul_assoc]
  exact zAZ (fun x => by rw [zBP, zBJ]) X
theorem zDd (s : Snd) (t k : Nat) : (layP s t k).length = manyS s t k := by
  unfold layP
  rw [zBO, zCU]
  rfl
theorem zBM (s : Snd) (t : Nat) : 1 ≤ (rowS s t).length ∧ (rowS s t).length ≤ 2 := by
  unfold rowS rowZ
  split <;> simp
theorem zFw (k : Nat) : 1 ≤ rateN k := by
  cases k with
  | zero => decide
  | succ k => exact Nat.two_pow_pos k
theorem zIh {j k : Nat} (h : j ≤ k) : rateN j ≤ rateN k := by
  cases j with
  | zero => exact zFw k
  | succ j =>
    cases k with
    | zero => omega
    | succ k => exact Nat.pow_le_pow_right (by decide) (by omega)
theorem SndOk.each {s : Snd} (h : SndOk s) : 1 ≤ s.n / 2 ^ (s.g - 1) := by
  have hp : 0 < 2 ^ (s.g - 1) := Nat.two_pow_pos _
  have := Nat.div_add_mod s.n (2 ^ (s.g - 1))
  rw [h.dvd] at this
  have hn := h.n1
  rcases Nat.eq_zero_or_pos (s.n / 2 ^ (s.g - 1)) with e | e
  · rw [e] at this; omega
  · exact e
theorem SndOk.many {s : Snd} (h : SndOk s) {t k : Nat} (hk : k < s.g) : 1 ≤ manyS s t k ∧ manyS s t k ≤ 4096 := by
  obtain ⟨r1, r2⟩ := zBM s t
  have h1 := zIh (show k ≤ s.g - 1 by omega)
  have hb := h.pl.n1
  refine ⟨Nat.mul_pos (Nat.mul_pos (by omega) (Nat.mul_pos (zFw k) h.each)) hb, Nat.le_trans ?_ h.rate⟩
  unfold manyS
  rw [Nat.mul_assoc 2]
  exact Nat.mul_le_mul_right _ (Nat.mul_le_mul r2 (Nat.mul_le_mul_right _ h1))
theorem zNs {z : Nat} {L : List Nat} {e : Nat} : e ∈ stEsiTo z L ↔ ∃ c ∈ L, ∃ i, i < z ∧ e = c * z + i := by
  unfold stEsiTo
  simp only [List.mem_flatMap, List.mem_map, List.mem_range]
  constructor
  · rintro ⟨c, hc, i, hi, rfl⟩; exact ⟨c, hc, i, hi, rfl⟩
  · rintro ⟨c, hc, i, hi, rfl⟩; exact ⟨c, hc, i, hi, rfl⟩
theorem SndOk.esi {s : Snd} (h : SndOk s) {k x e : Nat} (hk : k < s.g) (he : e ∈ esiS s k x) : e < s.n := by
  unfold esiS stEsiL at he
  obtain ⟨c, hc, i, hi, rfl⟩ := zNs.1 he
  have h1 := zIG _ _ _ _ hc
  rw [show s.g - 1 - k + k = s.g - 1 by omega] at h1
  have h2 := Nat.div_mul_cancel (Nat.dvd_of_mod_eq_zero h.dvd)
  rw [Nat.mul_comm] at h2
  have h3 : (c + 1) * (s.n / 2 ^ (s.g - 1)) ≤ 2 ^ (s.g - 1) * (s.n / 2 ^ (s.g - 1)) := Nat.mul_le_mul_right _ h1
  rw [Nat.succ_mul] at h3
  omega
theorem zBV (b t : Nat) : ∀ l : Nat, -1 ≤ syncZ b t l ∧ syncZ b t l < l
  | 0 => by simp [syncZ]
  | l + 1 => by
    have h := zBV b t l
    unfold syncZ
    split <;> omega
theorem zI8 {s : Snd} (h : SndOk s) {t k j i e : Nat} (ht : t ≤ 1099511627775) (hk : k < s.g) (hj : j < manyS s t k) (hi : i < s.blocks) (he : e < s.n) : ckN (sdP s t k (manyS s t k) j i e) = 0 := by
  have hm := h.many (t := t) hk
  have hg := h.g8
  have hses := h.ses
  have hsy := zBV s.base (t + 1) s.g
  have hb := h.b16
  have hn := h.n2
  have hs := h.sym i e hi
  have hp := h.pl
  have h1 := hp.b1
  have h2 := hp.b64
  have hr : RangedP (sdP s t k (manyS s t k) j i e) := by
    refine ⟨?_, ?_, ?_, ?_, ?_, ?_, ?_, ?_, (fun _ => ⟨⟨?_, ?_⟩, ⟨?_, ?_⟩, ⟨?_, ?_⟩, ⟨?_, ?_⟩, ⟨?_, ?_⟩⟩), (fun q => by cases q)⟩
    all_goals simp only [sdP]
    all_goals omega
  have hf : FormP (sdP s t k (manyS s t k) j i e) := by
    refine ⟨(fun _ => ⟨⟨rfl, rfl, rfl, rfl, rfl⟩, rfl, rfl, rfl, rfl, ?_, ?_⟩), (fun q => by cases q)⟩
    all_goals simp only [sdP]
    all_goals omega
  exact ckN_zero.2 ⟨hr, hf⟩
theorem zIg {s : Snd} (h : SndOk s) {t : Nat} (ht : t ≤ 1099511627775) : ckN (annP s t) = 0 := by
  have hp := h.pl
  have hs := hp.size_le
  have hg := h.g8
  have hg1 := h.g1
  have hses := h.ses
  have hn := h.n2
  have hn1 := h.n1
  have hb1 := h.base1
  have hb2 := h.base2
  have hu1 := h.u1
  have hu2 := h.u2
  have hr : RangedP (annP s t) := by
    refine ⟨?_, ?_, ?_, ?_, ?_, ?_, ?_, ?_, (fun q => by cases q), (fun _ => ⟨rfl, ?_, ⟨?_, ?_⟩, ⟨?_, ?_⟩, ⟨?_, ?_⟩, ⟨?_, ?_⟩⟩)⟩
    all_goals simp only [annP]
    all_goals omega
  exact ckN_zero.2 ⟨hr, ⟨(fun q => by cases q), (fun _ => ⟨rfl, rfl, rfl, rfl, rfl, rfl, rfl, zEj hp⟩)⟩⟩
end

section
abbrev Vec := Nat → Bool
def vadd (x y : Vec) : Vec := fun c => x c ^^ y c
def vzero : Vec := fun _ => false
theorem zAA (x y : Vec) : vadd x y = vadd y x := by funext c; simp only [vadd]; cases x c <;> cases y c <;> rfl
theorem zH7 (x y z : Vec) : vadd (vadd x y) z = vadd x (vadd y z) := by funext c; simp only [vadd]; cases x c <;> cases y c <;> cases z c <;> rfl
theorem zBB (x y z : Vec) : vadd (vadd x y) z = vadd (vadd x z) y := by funext c; simp only [vadd]; cases x c <;> cases y c <;> cases z c <;> rfl
theorem zIU (x y r : Vec) : vadd (vadd x r) (vadd y r) = vadd x y := by funext c; simp only [vadd]; cases x c <;> cases y c <;> cases r c <;> rfl
theorem zA9 (x : Vec) : vadd x vzero = x := by funext c; simp only [vadd, vzero]; cases x c <;> rfl
theorem zB1 (x : Vec) : vadd x x = vzero := by funext c; simp only [vadd, vzero]; cases x c <;> rfl
theorem zDq (x y : Vec) : vadd (vadd x y) y = x := by funext c; simp only [vadd]; cases x c <;> cases y c <;> rfl
theorem zFq {x y : Vec} (h : vadd x y = vzero) : x = y := by
  have := congrArg (fun z => vadd z y) h
  simp only [zDq] at this
  rw [this, zAA, zA9]
structure Clo (S : Vec → Prop) : Prop where
  zero : S vzero
  add : ∀ x y, S x → S y → S (vadd x y)
def Sp (l : List Vec) (x : Vec) : Prop := ∀ S : Vec → Prop, Clo S → (∀ r ∈ l, S r) → S x
theorem Sp.clo (l : List Vec) : Clo (Sp l) := ⟨fun _ h _ => h.zero, fun _ _ hx hy S h hl => h.add _ _ (hx S h hl) (hy S h hl)⟩
theorem Sp.zero (l : List Vec) : Sp l vzero := (Sp.clo l).zero
theorem Sp.add {l : List Vec} {x y : Vec} (hx : Sp l x) (hy : Sp l y) : Sp l (vadd x y) := (Sp.clo l).add _ _ hx hy
theorem Sp.mem {l : List Vec} {r : Vec} (h : r ∈ l) : Sp l r := fun _ _ hl => hl r h
theorem Sp.le {l m : List Vec} {x : Vec} (h : ∀ r ∈ l, Sp m r) (hx : Sp l x) : Sp m x := hx _ (Sp.clo m) h
theorem Sp.sub {l m : List Vec} {x : Vec} (h : ∀ r ∈ l, r ∈ m) (hx : Sp l x) : Sp m x := hx.le fun r hr => .mem (h r hr)
theorem Sp.of_add {l : List Vec} {x y : Vec} (h : Sp l (vadd x y)) (hy : Sp l y) : Sp l x := by
  have := h.add hy
  rwa [zDq] at this
theorem Sp.low {l : List Vec} {x : Vec} {c : Nat} (h : ∀ r ∈ l, r c = false) (hx : Sp l x) : x c = false :=
  hx (fun y => y c = false) ⟨rfl, fun x y h1 h2 => by simp only [vadd, h1, h2]; rfl⟩ h
def SpEq (l m : List Vec) : Prop := ∀ x, Sp l x ↔ Sp m x
theorem SpEq.of {l m : List Vec} (h1 : ∀ r ∈ l, Sp m r) (h2 : ∀ r ∈ m, Sp l r) : SpEq l m := fun _ => ⟨fun h => h.le h1, fun h => h.le h2⟩
theorem SpEq.refl (l : List Vec) : SpEq l l := fun _ => Iff.rfl
theorem SpEq.symm {l m : List Vec} (h : SpEq l m) : SpEq m l := fun x => (h x).symm
theorem SpEq.trans {l m k : List Vec} (h : SpEq l m) (h2 : SpEq m k) : SpEq l k := fun x => (h x).trans (h2 x)
theorem SpEq.snoc {l m : List Vec} (h : SpEq l m) (r : Vec) : SpEq (l ++ [r]) (m ++ [r]) := .of
  (fun s hs => by
    rcases List.mem_append.1 hs with hs | hs
    · exact ((h s).1 (.mem hs)).sub fun t ht => List.mem_append.2 (.inl ht)
    · exact .mem (List.mem_append.2 (.inr hs)))
  (fun s hs => by
    rcases List.mem_append.1 hs with hs | hs
    · exact ((h s).2 (.mem hs)).sub fun t ht => List.mem_append.2 (.inl ht)
    · exact .mem (List.mem_append.2 (.inr hs)))
theorem SpEq.snoc_in {l : List Vec} {r : Vec} (h : Sp l r) : SpEq (l ++ [r]) l := .of
  (fun s hs => by
    rcases List.mem_append.1 hs with hs | hs
    · exact .mem hs
    · simp at hs; subst hs; exact h)
  (fun s hs => .mem (List.mem_append.2 (.inl hs)))
theorem zNy {x : Vec} (h : Sp [] x) : x = vzero := h (· = vzero) ⟨rfl, by rintro _ _ rfl rfl; exact zA9 _⟩ (by simp)
theorem zM5 {r : Vec} {l : List Vec} {x : Vec} (h : Sp (r :: l) x) : Sp l x ∨ Sp l (vadd x r) := by
  refine h (fun x => Sp l x ∨ Sp l (vadd x r)) ⟨.inl (Sp.zero l), ?_⟩ ?_
  · rintro x y (hx | hx) (hy | hy)
    · exact .inl (hx.add hy)
    · right; rw [zH7]; exact hx.add hy
    · right; rw [zBB]; exact hx.add hy
    · left; have := hx.add hy; rwa [zIU] at this
  · intro s hs
    rcases List.mem_cons.1 hs with rfl | hs
    · right; rw [zB1]; exact Sp.zero l
    · exact .inl (.mem hs)
def Lead (x : Vec) (c : Nat) : Prop := x c = true ∧ ∀ d, d < c → x d = false
theorem Lead.unique {x : Vec} {c d : Nat} (h : Lead x c) (k : Lead x d) : c = d := by
  rcases Nat.lt_trichotomy c d with h1 | h1 | h1
  · have := k.2 _ h1; rw [h.1] at this; cases this
  · exact h1
  · have := h.2 _ h1; rw [k.1] at this; cases this
theorem Lead.ne {x : Vec} {c : Nat} (h : Lead x c) : x ≠ vzero := by
  rintro rfl; cases h.1
theorem Lead.add_lt {x y : Vec} {c d : Nat} (hx : Lead x c) (hy : Lead y d) (h : c < d) : Lead (vadd x y) c :=
  ⟨by simp only [vadd, hx.1, hy.2 _ h]; rfl, fun e he => by simp only [vadd, hx.2 _ he, hy.2 _ (Nat.lt_trans he h)]; rfl⟩
theorem zCw (x : Vec) : x = vzero ∨ ∃ c, Lead x c := by
  by_cases h : ∃ c, Lead x c
  · exact .inr h
  · left
    have : ∀ n, ∀ c, c < n → x c = false := by
      intro n
      induction n with
      | zero => intro c hc; omega
      | succ n ih =>
        intro c hc
        by_cases e : c = n
        · subst e
          cases hx : x c with
          | false => rfl
          | true => exact absurd ⟨c, hx, ih⟩ h
        · exact ih c (by omega)
    funext c
    exact this (c + 1) c (by omega)
def Ech (l : List Vec) : Prop := (∀ r ∈ l, ∃ c, Lead r c) ∧ l.Pairwise (fun r s => ∀ c, Lead r c → ¬ Lead s c)
theorem zDY {l : List Vec} (h : Ech l) : ∀ x, Sp l x → x = vzero ∨ ∃ r ∈ l, ∃ c, Lead r c ∧ Lead x c := by
  induction l with
  | nil => intro x hx; exact .inl (zNy hx)
  | cons r l ih =>
    intro x hx
    obtain ⟨h1, h2⟩ := h
    have ih' := ih ⟨fun s hs => h1 s (List.mem_cons_of_mem _ hs), (List.pairwise_cons.1 h2).2⟩
    rcases zM5 hx with hx | hx
    · rcases ih' x hx with e | ⟨s, hs, c, hc⟩
      · exact .inl e
      · exact .inr ⟨s, List.mem_cons_of_mem _ hs, c, hc⟩
    · obtain ⟨c, hc⟩ := h1 r (by simp)
      right
      rcases ih' _ hx with e | ⟨s, hs, d, hd, hxd⟩
      · have := zFq e
        subst this
        exact ⟨x, by simp, c, hc, hc⟩
      · have hne : c ≠ d := fun e => (List.pairwise_cons.1 h2).1 s hs c hc (e ▸ hd)
        have ex : x = vadd (vadd x r) r := (zDq x r).symm
        rcases Nat.lt_or_gt_of_ne hne with hl | hl
        · refine ⟨r, by simp, c, hc, ?_⟩
          rw [ex, zAA]
          exact hc.add_lt hxd hl
        · refine ⟨s, List.mem_cons_of_mem _ hs, d, hd, ?_⟩
          rw [ex]
          exact hxd.add_lt hc hl
theorem zJ0 {α β : Type} (R : α → β → Prop) : ∀ (l : List α) (m : List β), (∀ r ∈ l, ∃ s ∈ m, R r s) → l.Pairwise (fun r r' => ∀ s, R r s → ¬ R r' s) → l.length ≤ m.length
  | [], _, _, _ => Nat.zero_le _
  | r :: l, m, h, hp => by
    obtain ⟨s, hs, hr⟩ := h r (by simp)
    obtain ⟨m1, m2, rfl⟩ := List.append_of_mem hs
    have := zJ0 R l (m1 ++ m2) (fun r' hr' => by
      obtain ⟨s', hs', hr2⟩ := h r' (List.mem_cons_of_mem _ hr')
      refine ⟨s', ?_, hr2⟩
      have hne : s' ≠ s := fun e => (List.pairwise_cons.1 hp).1 r' hr' s hr (e ▸ hr2)
      simp only [List.mem_append, List.mem_cons] at hs' ⊢
      rcases hs' with h1 | h1 | h1
      · exact .inl h1
      · exact absurd h1 hne
      · exact .inr h1) (List.pairwise_cons.1 hp).2
    simp only [List.length_append, List.length_cons] at this ⊢
    omega
theorem zMe {l m : List Vec} (hl : Ech l) (hm : Ech m) (h : ∀ r ∈ l, Sp m r) : l.length ≤ m.length := by
  refine zJ0 (fun r s => ∃ c, Lead r c ∧ Lead s c) l m ?_ (hl.2.imp ?_)
  · intro r hr
    obtain ⟨c, hc⟩ := hl.1 r hr
    rcases zDY hm r (h r hr) with e | ⟨s, hs, d, hd, hrd⟩
    · exact absurd e hc.ne
    · exact ⟨s, hs, d, hrd, hd⟩
  · rintro r r' hrr s ⟨c, h1, h2⟩ ⟨d, h3, h4⟩
    have := h2.unique h4
    subst this
    exact hrr _ h1 h3
theorem zHh {l m : List Vec} (hl : Ech l) (hm : Ech m) (h : SpEq l m) : l.length = m.length :=
  Nat.le_antisymm (zMe hl hm fun r hr => (h r).1 (.mem hr)) (zMe hm hl fun r hr => (h r).2 (.mem hr))
theorem zGP {m : List Vec} {x : Vec} {c : Nat} (hm : Ech m) (hx : Lead x c) (h : ∀ s ∈ m, ¬ Lead s c) : Ech (m ++ [x]) := by
  refine ⟨fun r hr => ?_, List.pairwise_append.2 ⟨hm.2, by simp, fun r hr s hs => ?_⟩⟩
  · rcases List.mem_append.1 hr with hr | hr
    · exact hm.1 r hr
    · simp at hr; subst hr; exact ⟨c, hx⟩
  · simp at hs
    subst hs
    intro d hd hxd
    have := hx.unique hxd
    subst this
    exact h r hr hd
theorem zMM {m : List Vec} {x : Vec} {c : Nat} (hm : Ech m) (hx : Lead x c) (h : ∀ s ∈ m, ¬ Lead s c) : ¬ Sp m x := by
  intro hs
  rcases zDY hm x hs with e | ⟨s, hs, d, hd, hxd⟩
  · exact hx.ne e
  · have := hx.unique hxd
    subst this
    exact h s hs hd
theorem zLR (m : List Vec) (r : Vec) : ∀ k, ∃ x, Sp m (vadd x r) ∧ ∀ c, c < k → Lead x c → ∀ s ∈ m, ¬ Lead s c := by
  intro k
  induction k with
  | zero => exact ⟨r, by rw [zB1]; exact Sp.zero m, fun c hc => by omega⟩
  | succ k ih =>
    obtain ⟨x, hx, hk⟩ := ih
    by_cases h : Lead x k ∧ ∃ s ∈ m, Lead s k
    · obtain ⟨h1, s, hs, h2⟩ := h
      refine ⟨vadd x s, by rw [zBB]; exact hx.add (.mem hs), fun c hc hl => ?_⟩
      have : vadd x s c = false := by
        by_cases e : c = k
        · subst e; simp only [vadd, h1.1, h2.1]; rfl
        · simp only [vadd, h1.2 c (by omega), h2.2 c (by omega)]; rfl
      rw [hl.1] at this
      cases this
    · refine ⟨x, hx, fun c hc hl s hs hsl => ?_⟩
      by_cases e : c = k
      · subst e; exact h ⟨hl, s, hs, hsl⟩
      · exact hk c (by omega) hl s hs hsl
theorem zBN : ∀ m : List Vec, ∃ N, ∀ s ∈ m, ∀ c, Lead s c → c < N
  | [] => ⟨0, by simp⟩
  | s :: m => by
    obtain ⟨N, hN⟩ := zBN m
    by_cases h : ∃ c, Lead s c
    · obtain ⟨c, hc⟩ := h
      refine ⟨N + c + 1, fun t ht d hd => ?_⟩
      rcases List.mem_cons.1 ht with rfl | ht
      · have := hc.unique hd; omega
      · have := hN t ht d hd; omega
    · refine ⟨N, fun t ht d hd => ?_⟩
      rcases List.mem_cons.1 ht with rfl | ht
      · exact absurd ⟨d, hd⟩ h
      · exact hN t ht d hd
theorem zAV : ∀ l : List Vec, ∃ m, Ech m ∧ SpEq m l ∧ m.length ≤ l.length
  | [] => ⟨[], ⟨by simp, by simp⟩, SpEq.refl _, Nat.le_refl _⟩
  | r :: l => by
    obtain ⟨m, hm, he, hl⟩ := zAV l
    obtain ⟨N, hN⟩ := zBN m
    obtain ⟨x, hx, hk⟩ := zLR m r N
    have hmem : ∀ s ∈ m, Sp (r :: l) s := fun s hs => ((he s).1 (.mem hs)).sub fun t ht => List.mem_cons_of_mem _ ht
    rcases zCw x with rfl | ⟨c, hc⟩
    · have hr : Sp m r := by rw [zAA, zA9] at hx; exact hx
      refine ⟨m, hm, .of hmem (fun s hs => ?_), by simp; omega⟩
      rcases List.mem_cons.1 hs with rfl | hs
      · exact hr
      · exact (he s).2 (.mem hs)
    · have hn : ∀ s ∈ m, ¬ Lead s c := fun s hs hsc => hk c (hN s hs c hsc) hc s hs hsc
      refine ⟨m ++ [x], zGP hm hc hn, .of (fun s hs => ?_) (fun s hs => ?_), by simp; omega⟩
      · rcases List.mem_append.1 hs with hs | hs
        · exact hmem s hs
        · simp at hs
          subst hs
          exact (hx.le hmem).of_add (.mem (by simp))
      · rcases List.mem_cons.1 hs with rfl | hs
        · have h1 : Sp (m ++ [x]) (vadd x s) := hx.sub fun t ht => List.mem_append.2 (.inl ht)
          rw [zAA] at h1
          exact h1.of_add (.mem (by simp))
        · exact ((he s).2 (.mem hs)).sub fun t ht => List.mem_append.2 (.inl ht)
noncomputable def rk (l : List Vec) : Nat := (Classical.choose (zAV l)).length
theorem rk_eq {l m : List Vec} (hm : Ech m) (h : SpEq m l) : m.length = rk l := by
  obtain ⟨h1, h2, _⟩ := Classical.choose_spec (zAV l)
  exact zHh hm h1 (h.trans h2.symm)
theorem zGI {l m : List Vec} (h : SpEq l m) : rk l = rk m := by
  obtain ⟨h1, h2, _⟩ := Classical.choose_spec (zAV l)
  exact rk_eq h1 (h2.trans h)
theorem zA1 (l : List Vec) : rk l ≤ l.length := (Classical.choose_spec (zAV l)).2.2
theorem rk_in {l : List Vec} {r : Vec} (h : Sp l r) : rk (l ++ [r]) = rk l := zGI (.snoc_in h)
theorem zJx {l : List Vec} {r : Vec} (h : ¬ Sp l r) : rk (l ++ [r]) = rk l + 1 := by
  obtain ⟨m, hm, he, -⟩ := zAV l
  obtain ⟨N, hN⟩ := zBN m
  obtain ⟨x, hx, hk⟩ := zLR m r N
  have hz : x ≠ vzero := by
    rintro rfl
    rw [zAA, zA9] at hx
    exact h ((he r).1 hx)
  rcases zCw x with e | ⟨c, hc⟩
  · exact absurd e hz
  · have hn : ∀ s ∈ m, ¬ Lead s c := fun s hs hsc => hk c (hN s hs c hsc) hc s hs hsc
    have h2 : SpEq (m ++ [x]) (l ++ [r]) := by
      refine SpEq.trans ?_ (he.snoc r)
      refine .of (fun s hs => ?_) (fun s hs => ?_)
      · rcases List.mem_append.1 hs with hs | hs
        · exact .mem (List.mem_append.2 (.inl hs))
        · simp at hs
          subst hs
          have h1 : Sp (m ++ [r]) (vadd s r) := hx.sub fun t ht => List.mem_append.2 (.inl ht)
          exact h1.of_add (.mem (by simp))
      · rcases List.mem_append.1 hs with hs | hs
        · exact .mem (List.mem_append.2 (.inl hs))
        · simp at hs
          subst hs
          have h1 : Sp (m ++ [x]) (vadd x s) := hx.sub fun t ht => List.mem_append.2 (.inl ht)
          rw [zAA] at h1
          exact h1.of_add (.mem (by simp))
    have e1 := rk_eq (zGP hm hc hn) h2
    have e2 := rk_eq hm he
    simp at e1
    omega
open Classical in
noncomputable def picksTo (l : List Vec) (k : Nat) : List Nat := (List.range k).filter fun i => decide (¬ Sp (l.take i) (l.getD i vzero))
theorem zHw {l : List Vec} {k : Nat} (h : Sp (l.take k) (l.getD k vzero)) : picksTo l (k + 1) = picksTo l k := by
  unfold picksTo; rw [List.range_succ, List.filter_append]; simp only [List.filter_cons, List.filter_nil, not_true_eq_false, decide_false, h]; simp
theorem zF7 {l : List Vec} {k : Nat} (h : ¬ Sp (l.take k) (l.getD k vzero)) : picksTo l (k + 1) = picksTo l k ++ [k] := by
  unfold picksTo; rw [List.range_succ, List.filter_append]; simp only [List.filter_cons, List.filter_nil, not_false_eq_true, decide_true, h]; simp
theorem zE2 {l : List Vec} {k : Nat} (h : k < l.length) : l.take (k + 1) = l.take k ++ [l.getD k vzero] := by
  rw [List.take_succ_eq_append_getElem h]
  simp [List.getD_eq_getElem?_getD, h]
theorem zHN {l : List Vec} {k : Nat} (h : k < l.length) (hs : Sp (l.take k) (l.getD k vzero)) : rk (l.take (k + 1)) = rk (l.take k) := by rw [zE2 h]; exact rk_in hs
theorem zDh {l : List Vec} {k : Nat} (h : k < l.length) (hs : ¬ Sp (l.take k) (l.getD k vzero)) : rk (l.take (k + 1)) = rk (l.take k) + 1 := by rw [zE2 h]; exact zJx hs
theorem zDu (l : List Vec) : ∀ k, k ≤ l.length → (picksTo l k).length = rk (l.take k)
  | 0, _ => by
    have := zA1 (l.take 0)
    simp at this
    simp [picksTo, this]
  | k + 1, hk => by
    have ih := zDu l k (by omega)
    by_cases h : Sp (l.take k) (l.getD k vzero)
    · rw [zHw h, zHN (by omega) h, ih]
    · rw [zF7 h, zDh (by omega) h, List.length_append, ih]; rfl
theorem zLT {V : List Vec} (c : Nat → Nat) (h1 : ∀ i, i < V.length → V.getD i vzero (c i) = true) (h2 : ∀ i j, i < V.length → j < i → V.getD j vzero (c i) = false) : rk V = V.length := by
  have key : ∀ k, k ≤ V.length → rk (V.take k) = k := by
    intro k
    induction k with
    | zero =>
      intro _
      have := zA1 (V.take 0)
      simp at this
      simpa using this
    | succ k ih =>
      intro hk
      rw [zDh (by omega) ?_, ih (by omega)]
      intro hs
      have h3 := hs.low (c := c k) fun r hr => by
        obtain ⟨j, hj, rfl⟩ := List.getElem_of_mem hr
        rw [List.length_take] at hj
        have h4 := h2 k j (by omega) (by omega)
        rw [List.getD_eq_getElem?_getD, List.getElem?_eq_getElem (by omega)] at h4
        simpa using h4
      rw [h1 k (by omega)] at h3
      cases h3
  have := key V.length (Nat.le_refl _)
  rwa [List.take_length] at this
end

section
def IsP (n : Nat) : Prop := 2 ≤ n ∧ ∀ d, 2 ≤ d → d < n → n % d ≠ 0
theorem zAX {c : Nat} (h2 : 2 ≤ c) (d0 : Nat) (hd : ∀ d, 2 ≤ d → d < d0 → c % d ≠ 0) (hr : c < d0 * d0) : IsP c := by
  refine ⟨h2, fun d h1 h3 h4 => ?_⟩
  obtain ⟨e, he⟩ := Nat.dvd_of_mod_eq_zero h4
  rcases Nat.lt_or_ge d d0 with hdd | hdd
  · exact hd d h1 hdd h4
  · rcases Nat.lt_or_ge e d0 with h | h
    · have he2 : 2 ≤ e := by
        rcases (by omega : e = 0 ∨ e = 1 ∨ 2 ≤ e) with rfl | rfl | h'
        · omega
        · omega
        · exact h'
      exact hd e he2 h (by rw [he]; exact Nat.mul_mod_left d e)
    · have := Nat.mul_le_mul hdd h
      omega
theorem zJC {c d : Nat} (h1 : 2 ≤ d) (h2 : d < c) (h : c % d = 0) : ¬ IsP c := fun hp => hp.2 d h1 h2 h
theorem zEe {c : Nat} (n : Nat) (h : ∀ j : Fin n, c % (j.1 + 2) ≠ 0) (d : Nat) (h1 : 2 ≤ d) (h2 : d < n + 2) : c % d ≠ 0 := by
  have := h ⟨d - 2, by omega⟩
  rwa [show d - 2 + 2 = d by omega] at this
theorem zNt : IsP 65537 := zAX (by decide) 257 (fun d h1 h2 => zEe 255 (by decide +kernel) d h1 h2) (by decide)
theorem p19 : IsP 19 := zAX (by decide) 5 (fun d h1 h2 => zEe 3 (by decide +kernel) d h1 h2) (by decide)
theorem p157 : IsP 157 := zAX (by decide) 13 (fun d h1 h2 => zEe 11 (by decide +kernel) d h1 h2) (by decide)
def LeastP (n : Int) (p : Nat) : Prop := IsP p ∧ n ≤ (p : Int) ∧ ∀ q : Nat, n ≤ (q : Int) → q < p → ¬ IsP q
theorem LeastP.unique {n : Int} {p q : Nat} (h : LeastP n p) (h' : LeastP n q) : p = q := by
  rcases Nat.lt_trichotomy p q with hh | hh | hh
  · exact absurd h.1 (h'.2.2 p h.2.1 hh)
  · exact hh
  · exact absurd h'.1 (h.2.2 q h'.2.1 hh)
theorem LeastP.le {n : Int} {p : Nat} (h : LeastP n p) {q : Nat} (hq : IsP q) (hn : n ≤ (q : Int)) : p ≤ q := by
  rcases Nat.lt_or_ge q p with hh | hh
  · exact absurd hq (h.2.2 q hn hh)
  · exact hh
theorem LeastP.two {n : Int} {p : Nat} (h : LeastP n p) : 2 ≤ p := h.1.1
def ch : Nat → Nat → Nat
  | _, 0 => 1
  | 0, _ + 1 => 0
  | n + 1, k + 1 => ch n k + ch n (k + 1)
theorem zEy (n : Nat) : ch n 0 = 1 := by cases n <;> rfl
theorem zGv (n k : Nat) : ch (n + 1) (k + 1) = ch n k + ch n (k + 1) := rfl
theorem zIR : ∀ (n k : Nat), n < k → ch n k = 0 := by
  intro n
  induction n with
  | zero => intro k hk; cases k with
    | zero => omega
    | succ k => rfl
  | succ n ih => intro k hk; cases k with
    | zero => omega
    | succ k => rw [zGv, ih k (by omega), ih (k + 1) (by omega)]
theorem zNZ : ∀ (n k : Nat), ch n k ≤ 2 ^ n := by
  intro n
  induction n with
  | zero => intro k; cases k <;> simp [ch]
  | succ n ih => intro k; cases k with
    | zero => rw [zEy]; exact Nat.pos_of_ne_zero (by simp)
    | succ k => rw [zGv, Nat.pow_succ]; have := ih k; have := ih (k + 1); omega
theorem zMg : ∀ (m k : Nat), ch (m + 10) k ≤ 252 * 2 ^ m := by
  intro m
  induction m with
  | zero =>
    intro k
    rcases Nat.lt_or_ge 10 k with h | h
    · rw [zIR _ _ (by omega)]; omega
    · have : ∀ k, k ≤ 10 → ch 10 k ≤ 252 := by decide
      exact this k h
  | succ m ih => intro k; cases k with
    | zero => rw [zEy]; have : 0 < 2 ^ (m + 1) := Nat.pos_of_ne_zero (by simp); omega
    | succ k =>
      have e : ch (m + 1 + 10) (k + 1) = ch (m + 10) k + ch (m + 10) (k + 1) := by
        rw [show m + 1 + 10 = (m + 10) + 1 by omega]; rfl
      rw [e, Nat.pow_succ]
      have := ih k
      have := ih (k + 1)
      omega
theorem zGz (n k : Nat) (h : n ≤ 60) : ch n k ≤ 283726776524341248 := by
  rcases Nat.lt_or_ge n 10 with h1 | h1
  · have := zNZ n k
    have : 2 ^ n ≤ 2 ^ 10 := Nat.pow_le_pow_right (by omega) (by omega)
    omega
  · have e := zMg (n - 10) k
    rw [show n - 10 + 10 = n by omega] at e
    have : 2 ^ (n - 10) ≤ 2 ^ 50 := Nat.pow_le_pow_right (by omega) (by omega)
    omega
def LeastX (k x : Nat) : Prop := 1 ≤ x ∧ 2 * k ≤ x * (x - 1) ∧ ∀ y, 1 ≤ y → y < x → y * (y - 1) < 2 * k
theorem LeastX.mono {k l x y : Nat} (h : LeastX k x) (h' : LeastX l y) (hkl : k ≤ l) : x ≤ y := by
  rcases Nat.lt_or_ge y x with hh | hh
  · have := h.2.2 y h'.1 hh
    have := h'.2.1
    omega
  · exact hh
theorem LeastX.unique {k x y : Nat} (h : LeastX k x) (h' : LeastX k y) : x = y := Nat.le_antisymm (h.mono h' (Nat.le_refl _)) (h'.mono h (Nat.le_refl _))
theorem LeastX.le {k x : Nat} (h : LeastX k x) (hk : k ≤ 128) : x ≤ 17 := by
  rcases Nat.lt_or_ge 17 x with hh | hh
  · have := h.2.2 17 (by omega) hh
    omega
  · exact hh
theorem LeastX.ge {k x : Nat} (h : LeastX k x) (hk : 1 ≤ k) : 2 ≤ x := by
  rcases Nat.lt_or_ge x 2 with hh | hh
  · have h1 := h.1
    obtain rfl : x = 1 := by omega
    have := h.2.1
    omega
  · exact hh
def LeastH (u h : Nat) : Prop := u ≤ ch h ((h + 1) / 2) ∧ ∀ j, j < h → ch j ((j + 1) / 2) < u
theorem LeastH.mono {u v h g : Nat} (H : LeastH u h) (H' : LeastH v g) (huv : u ≤ v) : h ≤ g := by
  rcases Nat.lt_or_ge g h with hh | hh
  · have := H.2 g hh
    have := H'.1
    omega
  · exact hh
theorem LeastH.unique {u h g : Nat} (H : LeastH u h) (H' : LeastH u g) : h = g := Nat.le_antisymm (H.mono H' (Nat.le_refl _)) (H'.mono H (Nat.le_refl _))
theorem ch105 : ch 10 5 = 252 := by decide
theorem LeastH.le {u h : Nat} (H : LeastH u h) (hu : u ≤ 252) : h ≤ 10 := by
  rcases Nat.lt_or_ge 10 h with hh | hh
  · have := H.2 10 hh
    rw [show (10 + 1) / 2 = 5 from rfl, ch105] at this
    omega
  · exact hh
def OfP (k s h l p : Nat) : Prop := (∃ x, LeastX k x ∧ LeastP (((k + 99) / 100 + x : Nat) : Int) s) ∧ LeastH (k + s) h ∧ l = k + s + h ∧ LeastP (l : Int) p
theorem OfP.unique {k s h l p s' h' l' p' : Nat} (H : OfP k s h l p) (H' : OfP k s' h' l' p') : s = s' ∧ h = h' ∧ l = l' ∧ p = p' := by
  obtain ⟨⟨x, hx, hs⟩, hh, rfl, hp⟩ := H
  obtain ⟨⟨x', hx', hs'⟩, hh', rfl, hp'⟩ := H'
  obtain rfl := hx.unique hx'
  obtain rfl := hs.unique hs'
  obtain rfl := hh.unique hh'
  obtain rfl := hp.unique hp'
  exact ⟨rfl, rfl, rfl, rfl⟩
theorem OfP.bounds {k s h l p : Nat} (H : OfP k s h l p) (h1 : 1 ≤ k) (h2 : k ≤ 128) : 3 ≤ s ∧ s ≤ 19 ∧ h ≤ 10 ∧ 1 ≤ h ∧ l ≤ 157 ∧ l ≤ p ∧ p ≤ 157 := by
  obtain ⟨⟨x, hx, hs⟩, hh, rfl, hp⟩ := H
  have hx1 := hx.le h2
  have hx2 := hx.ge h1
  have hs1 := hs.le p19 (by omega)
  have hs2 := hs.2.1
  have hh1 := hh.le (by omega)
  have hp1 := hp.le p157 (by omega)
  have hp2 := hp.2.1
  have hh2 : 1 ≤ h := by
    rcases Nat.eq_zero_or_pos h with rfl | hh
    · have := hh.1
      rw [show ch 0 ((0 + 1) / 2) = 1 from rfl] at this
      omega
    · exact hh
  refine ⟨by omega, by omega, by omega, by omega, by omega, by omega, by omega⟩
end
end Go.Proofs.YtkfimdpcadbcpaaGreatDoor
