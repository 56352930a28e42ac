/- Package wire: packets, their bytes, why one is not right, which one bytes are. Pure mathematics. -/
import Derived.Test.YtmihpbdgilmdiaaBkMath
import Derived.Test.YtmihpbdgilmdiaaSyMath
namespace Go.Proofs.Ytmihpbdgilmdiaa

/-- A packet: its data as bytes, its plan as five numbers. -/
@[ext] structure Pkt where
  kind : Int
  session : Int
  layer : Int
  tick : Int
  burst : Bool
  sync : Int
  many : Int
  place : Int
  block : Int
  esi : Int
  data : List Nat
  size : Int
  symbol : Int
  blocks : Int
  long : Int
  short : Int
  layers : Int
  esis : Int
  base : Int
  length : Int
deriving DecidableEq

def pkt0 : Pkt := ⟨0, 0, 0, 0, false, 0, 0, 0, 0, 0, [], 0, 0, 0, 0, 0, 0, 0, 0, 0⟩

/-- each number that its kind has is in its range -/
structure RangedP (p : Pkt) : Prop where
  k1 : 1 ≤ p.kind
  k2 : p.kind ≤ 2
  s1 : 0 ≤ p.session
  s2 : p.session ≤ 65535
  l1 : 0 ≤ p.layer
  l2 : p.layer ≤ 7
  t1 : 0 ≤ p.tick
  t2 : p.tick ≤ 1099511627775
  d : p.kind = 1 → (-1 ≤ p.sync ∧ p.sync ≤ 7) ∧ (1 ≤ p.many ∧ p.many ≤ 4096) ∧ (0 ≤ p.place ∧ p.place ≤ p.many - 1) ∧ (0 ≤ p.block ∧ p.block ≤ 15) ∧ (0 ≤ p.esi ∧ p.esi ≤ 65535)
  a : p.kind = 2 → p.layer = 0 ∧ p.size ≤ 4294967295 ∧ (1 ≤ p.layers ∧ p.layers ≤ 8) ∧ (1 ≤ p.esis ∧ p.esis ≤ 65536) ∧ (2 ≤ p.base ∧ p.base ≤ 4096) ∧ (1 ≤ p.length ∧ p.length ≤ p.base - 1)

/-- nothing else is wrong -/
structure FormP (p : Pkt) : Prop where
  d : p.kind = 1 → (p.size = 0 ∧ p.symbol = 0 ∧ p.blocks = 0 ∧ p.long = 0 ∧ p.short = 0) ∧ p.layers = 0 ∧ p.esis = 0 ∧ p.base = 0 ∧ p.length = 0 ∧ 1 ≤ p.data.length ∧ p.data.length ≤ 64
  a : p.kind = 2 → p.burst = false ∧ p.sync = 0 ∧ p.many = 0 ∧ p.place = 0 ∧ p.block = 0 ∧ p.esi = 0 ∧ p.data = [] ∧ planC p.size p.symbol p.blocks p.long p.short = 0

open Classical in
/-- why a packet is not right -/
noncomputable def ckN (p : Pkt) : Int := if RangedP p then (if FormP p then 0 else 2) else 1

theorem ckN_zero {p : Pkt} : ckN p = 0 ↔ RangedP p ∧ FormP p := by
  unfold ckN
  constructor
  · intro h
    split at h
    · rename_i h1
      split at h
      · rename_i h2; exact ⟨h1, h2⟩
      · cases h
    · cases h
  · rintro ⟨h1, h2⟩
    rw [if_pos h1, if_pos h2]
theorem ckN_one {p : Pkt} (h : ¬ RangedP p) : ckN p = 1 := by unfold ckN; rw [if_neg h]
theorem ckN_two {p : Pkt} (h : RangedP p) (h2 : ¬ FormP p) : ckN p = 2 := by unfold ckN; rw [if_pos h, if_neg h2]
theorem ckN_ways (p : Pkt) : (RangedP p ∧ FormP p ∧ ckN p = 0) ∨ (¬ RangedP p ∧ ckN p = 1) ∨ (RangedP p ∧ ¬ FormP p ∧ ckN p = 2) := by
  by_cases h : RangedP p
  · by_cases h2 : FormP p
    · exact .inl ⟨h, h2, ckN_zero.2 ⟨h, h2⟩⟩
    · exact .inr (.inr ⟨h, h2, ckN_two h h2⟩)
  · exact .inr (.inl ⟨h, ckN_one h⟩)

/-- so many bytes of a number, the highest one first -/
def beN : Nat → Nat → List Nat
  | 0, _ => []
  | k + 1, n => beN k (n / 256) ++ [n % 256]
/-- the number of bytes -/
def valN (l : List Nat) : Nat := l.foldl (fun n b => 256 * n + b) 0

theorem beN_length : ∀ (k n : Nat), (beN k n).length = k
  | 0, _ => rfl
  | k + 1, n => by rw [beN, List.length_append, beN_length k]; rfl
theorem beN_octets : ∀ (k n : Nat), Octets (beN k n)
  | 0, _ => fun x hx => by cases hx
  | k + 1, n => fun x hx => by
    rcases List.mem_append.1 hx with h | h
    · exact beN_octets k _ x h
    · rw [List.mem_singleton.1 h]; omega
theorem valN_snoc (l : List Nat) (b : Nat) : valN (l ++ [b]) = 256 * valN l + b := by
  unfold valN; rw [List.foldl_append]; rfl
theorem valN_beN : ∀ (k n : Nat), n < 256 ^ k → valN (beN k n) = n
  | 0, n, h => by
    have : n = 0 := by simpa using h
    rw [this]; rfl
  | k + 1, n, h => by
    rw [beN, valN_snoc, valN_beN k (n / 256) (by rw [Nat.pow_succ] at h; omega)]
    omega
theorem beN_one (n : Nat) (h : n < 256) : beN 1 n = [n] := by
  show [] ++ [n % 256] = [n]
  rw [Nat.mod_eq_of_lt h]; rfl
theorem valN_lt : ∀ (l : List Nat), Octets l → valN l < 256 ^ l.length := by
  have h : ∀ (k : Nat) (l : List Nat), l.length = k → Octets l → valN l < 256 ^ k := by
    intro k
    induction k with
    | zero => intro l hl _; rw [List.eq_nil_of_length_eq_zero hl]; decide
    | succ k ih =>
      intro l hl ho
      have hne : l ≠ [] := by intro e; rw [e] at hl; cases hl
      have e := List.dropLast_concat_getLast hne
      rw [← e, valN_snoc]
      have h1 := ih l.dropLast (by rw [List.length_dropLast]; omega) fun x hx => ho x (List.dropLast_subset l hx)
      have h2 : l.getLast hne < 256 := ho _ (List.getLast_mem hne)
      rw [Nat.pow_succ]
      omega
  exact fun l ho => h _ l rfl ho

/-- the number of some bytes, as far as there are any -/
def numA (c : List Nat) (a k : Nat) : Nat := valN ((c.drop a).take k)
theorem numA_mid (A B : List Nat) (k n : Nat) (hn : n < 256 ^ k) (a : Nat) (ha : A.length = a) : numA (A ++ (beN k n ++ B)) a k = n := by
  unfold numA
  rw [List.drop_left' ha, List.take_left' (beN_length k n), valN_beN k n hn]

/-- what both kinds have -/
def headB (p : Pkt) : List Nat := beN 1 p.kind.toNat ++ (beN 2 p.session.toNat ++ (beN 1 p.layer.toNat ++ beN 5 p.tick.toNat))
/-- a packet's bytes, but for their sum: of data, of an announcement -/
def bodyD (p : Pkt) : List Nat := headB p ++ (beN 1 ((p.sync + 1).toNat + (if p.burst then 128 else 0)) ++ (beN 2 p.many.toNat ++ (beN 2 p.place.toNat ++ (beN 1 p.block.toNat ++ (beN 2 p.esi.toNat ++ p.data)))))
def bodyA (p : Pkt) : List Nat := headB p ++ (beN 4 p.size.toNat ++ (beN 1 p.symbol.toNat ++ (beN 1 p.blocks.toNat ++ (beN 1 p.long.toNat ++ (beN 1 p.short.toNat ++ (beN 1 p.layers.toNat ++ (beN 2 (p.esis - 1).toNat ++ (beN 2 p.base.toNat ++ beN 2 p.length.toNat))))))))
def bodyP (p : Pkt) : List Nat := if p.kind = 1 then bodyD p else bodyA p

theorem headB_length (p : Pkt) : (headB p).length = 9 := by simp [headB, beN_length]
theorem bodyD_length (p : Pkt) : (bodyD p).length = 17 + p.data.length := by simp [bodyD, headB_length, beN_length]; omega
theorem bodyA_length (p : Pkt) : (bodyA p).length = 24 := by simp [bodyA, headB_length, beN_length]
theorem bodyP_octets {p : Pkt} (ho : Octets p.data) : Octets (bodyP p) := by
  intro x hx
  unfold bodyP at hx
  split at hx
  · unfold bodyD headB at hx
    simp only [List.mem_append] at hx
    rcases hx with (h | h | h | h) | h | h | h | h | h | h <;> first | exact beN_octets _ _ x h | exact ho x h
  · unfold bodyA headB at hx
    simp only [List.mem_append] at hx
    rcases hx with (h | h | h | h) | h | h | h | h | h | h | h | h | h <;> exact beN_octets _ _ x h

/-- the only packet of a kind that bytes can be -/
def gsD (c : List Nat) (kind : Int) : Pkt := ⟨kind, numA c 1 2, numA c 3 1, numA c 4 5, decide (128 ≤ numA c 9 1), ((numA c 9 1 % 128 : Nat) : Int) - 1, numA c 10 2, numA c 12 2, numA c 14 1, numA c 15 2, c.drop 17, 0, 0, 0, 0, 0, 0, 0, 0, 0⟩
def gsA (c : List Nat) (kind : Int) : Pkt := ⟨kind, numA c 1 2, numA c 3 1, numA c 4 5, false, 0, 0, 0, 0, 0, [], numA c 9 4, numA c 13 1, numA c 14 1, numA c 15 1, numA c 16 1, numA c 17 1, ((numA c 18 2 : Nat) : Int) + 1, numA c 20 2, numA c 22 2⟩
def gsP (c : List Nat) (kind : Int) : Pkt := if kind = 1 then gsD c kind else gsA c kind

theorem numA_of {c A B : List Nat} {k n a : Nat} (hc : c = A ++ (beN k n ++ B)) (hn : n < 256 ^ k) (ha : A.length = a) : numA c a k = n := by rw [hc, numA_mid A B k n hn a ha]

theorem gsD_body {p : Pkt} (hk : p.kind = 1) (hr : RangedP p) (hf : FormP p) : gsD (bodyD p) p.kind = p := by
  obtain ⟨⟨y1, y2⟩, ⟨m1, m2⟩, ⟨c1, c2⟩, ⟨b1, b2⟩, ⟨e1, e2⟩⟩ := hr.d hk
  obtain ⟨⟨f1, f2, f3, f4, f5⟩, f6, f7, f8, f9, -, -⟩ := hf.d hk
  have s1 := hr.s1; have s2 := hr.s2; have l1 := hr.l1; have l2 := hr.l2; have t1 := hr.t1; have t2 := hr.t2
  have h1 : numA (bodyD p) 1 2 = p.session.toNat := numA_of (A := beN 1 p.kind.toNat) (B := beN 1 p.layer.toNat ++ beN 5 p.tick.toNat ++ _) (by simp only [bodyD, headB, List.append_assoc]; rfl) (by omega) (by simp [beN_length])
  have h2 : numA (bodyD p) 3 1 = p.layer.toNat := numA_of (A := beN 1 p.kind.toNat ++ beN 2 p.session.toNat) (B := beN 5 p.tick.toNat ++ _) (by simp only [bodyD, headB, List.append_assoc]; rfl) (by omega) (by simp [beN_length])
  have h3 : numA (bodyD p) 4 5 = p.tick.toNat := numA_of (A := beN 1 p.kind.toNat ++ beN 2 p.session.toNat ++ beN 1 p.layer.toNat) (by simp only [bodyD, headB, List.append_assoc]; rfl) (by omega) (by simp [beN_length])
  have h4 : numA (bodyD p) 9 1 = (p.sync + 1).toNat + (if p.burst then 128 else 0) := numA_of (A := headB p) (by simp only [bodyD]; rfl) (by split <;> omega) (headB_length p)
  have h5 : numA (bodyD p) 10 2 = p.many.toNat := numA_of (A := headB p ++ beN 1 _) (by simp only [bodyD, List.append_assoc]; rfl) (by omega) (by simp [beN_length, headB_length])
  have h6 : numA (bodyD p) 12 2 = p.place.toNat := numA_of (A := headB p ++ beN 1 _ ++ beN 2 p.many.toNat) (by simp only [bodyD, List.append_assoc]; rfl) (by omega) (by simp [beN_length, headB_length])
  have h7 : numA (bodyD p) 14 1 = p.block.toNat := numA_of (A := headB p ++ beN 1 _ ++ beN 2 p.many.toNat ++ beN 2 p.place.toNat) (by simp only [bodyD, List.append_assoc]; rfl) (by omega) (by simp [beN_length, headB_length])
  have h8 : numA (bodyD p) 15 2 = p.esi.toNat := numA_of (A := headB p ++ beN 1 _ ++ beN 2 p.many.toNat ++ beN 2 p.place.toNat ++ beN 1 p.block.toNat) (by simp only [bodyD, List.append_assoc]; rfl) (by omega) (by simp [beN_length, headB_length])
  have h9 : (bodyD p).drop 17 = p.data := by
    have e : bodyD p = (headB p ++ beN 1 ((p.sync + 1).toNat + (if p.burst then 128 else 0)) ++ beN 2 p.many.toNat ++ beN 2 p.place.toNat ++ beN 1 p.block.toNat ++ beN 2 p.esi.toNat) ++ p.data := by simp only [bodyD, List.append_assoc]
    rw [e, List.drop_left' (by simp [beN_length, headB_length])]
  unfold gsD
  rw [h1, h2, h3, h4, h5, h6, h7, h8, h9]
  ext1 <;> simp only [hk, f1, f2, f3, f4, f5, f6, f7, f8, f9] <;> first | rfl | (cases hb : p.burst <;> simp <;> omega) | omega

theorem gsA_body {p : Pkt} (hk : p.kind = 2) (hr : RangedP p) (hf : FormP p) : gsA (bodyA p) p.kind = p := by
  obtain ⟨z0, z1, ⟨y1, y2⟩, ⟨e1, e2⟩, ⟨b1, b2⟩, ⟨n1, n2⟩⟩ := hr.a hk
  obtain ⟨f1, f2, f3, f4, f5, f6, f7, f8⟩ := hf.a hk
  obtain ⟨s', b', n', l', q', g1, g2, g3, g4, g5, hp⟩ := planC_zero f8
  have q1 := hp.b64; have q2 := hp.n16; have q3 := hp.lt; have q4 := hp.q128
  have s1 := hr.s1; have s2 := hr.s2; have l1 := hr.l1; have l2 := hr.l2; have t1 := hr.t1; have t2 := hr.t2
  have h1 : numA (bodyA p) 1 2 = p.session.toNat := numA_of (A := beN 1 p.kind.toNat) (B := beN 1 p.layer.toNat ++ beN 5 p.tick.toNat ++ _) (by simp only [bodyA, headB, List.append_assoc]; rfl) (by omega) (by simp [beN_length])
  have h2 : numA (bodyA p) 3 1 = p.layer.toNat := numA_of (A := beN 1 p.kind.toNat ++ beN 2 p.session.toNat) (B := beN 5 p.tick.toNat ++ _) (by simp only [bodyA, headB, List.append_assoc]; rfl) (by omega) (by simp [beN_length])
  have h3 : numA (bodyA p) 4 5 = p.tick.toNat := numA_of (A := beN 1 p.kind.toNat ++ beN 2 p.session.toNat ++ beN 1 p.layer.toNat) (by simp only [bodyA, headB, List.append_assoc]; rfl) (by omega) (by simp [beN_length])
  have h4 : numA (bodyA p) 9 4 = p.size.toNat := numA_of (A := headB p) (by simp only [bodyA]; rfl) (by omega) (headB_length p)
  have h5 : numA (bodyA p) 13 1 = p.symbol.toNat := numA_of (A := headB p ++ beN 4 p.size.toNat) (by simp only [bodyA, List.append_assoc]; rfl) (by omega) (by simp [beN_length, headB_length])
  have h6 : numA (bodyA p) 14 1 = p.blocks.toNat := numA_of (A := headB p ++ beN 4 p.size.toNat ++ beN 1 p.symbol.toNat) (by simp only [bodyA, List.append_assoc]; rfl) (by omega) (by simp [beN_length, headB_length])
  have h7 : numA (bodyA p) 15 1 = p.long.toNat := numA_of (A := headB p ++ beN 4 p.size.toNat ++ beN 1 p.symbol.toNat ++ beN 1 p.blocks.toNat) (by simp only [bodyA, List.append_assoc]; rfl) (by omega) (by simp [beN_length, headB_length])
  have h8 : numA (bodyA p) 16 1 = p.short.toNat := numA_of (A := headB p ++ beN 4 p.size.toNat ++ beN 1 p.symbol.toNat ++ beN 1 p.blocks.toNat ++ beN 1 p.long.toNat) (by simp only [bodyA, List.append_assoc]; rfl) (by omega) (by simp [beN_length, headB_length])
  have h9 : numA (bodyA p) 17 1 = p.layers.toNat := numA_of (A := headB p ++ beN 4 p.size.toNat ++ beN 1 p.symbol.toNat ++ beN 1 p.blocks.toNat ++ beN 1 p.long.toNat ++ beN 1 p.short.toNat) (by simp only [bodyA, List.append_assoc]; rfl) (by omega) (by simp [beN_length, headB_length])
  have h10 : numA (bodyA p) 18 2 = (p.esis - 1).toNat := numA_of (A := headB p ++ beN 4 p.size.toNat ++ beN 1 p.symbol.toNat ++ beN 1 p.blocks.toNat ++ beN 1 p.long.toNat ++ beN 1 p.short.toNat ++ beN 1 p.layers.toNat) (by simp only [bodyA, List.append_assoc]; rfl) (by omega) (by simp [beN_length, headB_length])
  have h11 : numA (bodyA p) 20 2 = p.base.toNat := numA_of (A := headB p ++ beN 4 p.size.toNat ++ beN 1 p.symbol.toNat ++ beN 1 p.blocks.toNat ++ beN 1 p.long.toNat ++ beN 1 p.short.toNat ++ beN 1 p.layers.toNat ++ beN 2 (p.esis - 1).toNat) (by simp only [bodyA, List.append_assoc]; rfl) (by omega) (by simp [beN_length, headB_length])
  have h12 : numA (bodyA p) 22 2 = p.length.toNat := numA_of (A := headB p ++ beN 4 p.size.toNat ++ beN 1 p.symbol.toNat ++ beN 1 p.blocks.toNat ++ beN 1 p.long.toNat ++ beN 1 p.short.toNat ++ beN 1 p.layers.toNat ++ beN 2 (p.esis - 1).toNat ++ beN 2 p.base.toNat) (B := []) (by simp only [bodyA, List.append_assoc, List.append_nil]) (by omega) (by simp [beN_length, headB_length])
  unfold gsA
  rw [h1, h2, h3, h4, h5, h6, h7, h8, h9, h10, h11, h12]
  ext1 <;> simp only [hk, f1, f2, f3, f4, f5, f6, f7] <;> first | rfl | omega

theorem gsP_body {p : Pkt} (hr : RangedP p) (hf : FormP p) : gsP (bodyP p) p.kind = p := by
  unfold gsP bodyP
  by_cases hk : p.kind = 1
  · rw [if_pos hk, if_pos hk]; exact gsD_body hk hr hf
  · rw [if_neg hk, if_neg hk]; exact gsA_body (by have := hr.k1; have := hr.k2; omega) hr hf

theorem bodyP_kind {p : Pkt} (hr : RangedP p) : (bodyP p)[0]? = some p.kind.toNat := by
  have k1 := hr.k1; have k2 := hr.k2
  have h : beN 1 p.kind.toNat = [p.kind.toNat] := beN_one _ (by omega)
  unfold bodyP bodyD bodyA headB
  rw [h]
  split <;> rfl

/-- two right packets of the same bytes are the same -/
theorem bodyP_inj {p q : Pkt} (h1 : RangedP p) (h2 : FormP p) (h3 : RangedP q) (h4 : FormP q) (h : bodyP p = bodyP q) : p = q := by
  have hk : p.kind = q.kind := by
    have e1 := bodyP_kind h1
    have e2 := bodyP_kind h3
    rw [h, e2] at e1
    have e3 := Option.some.inj e1
    have := h1.k1; have := h3.k1
    omega
  rw [← gsP_body h1 h2, ← gsP_body h3 h4, h, hk]

/-- these are a right packet's bytes (but for their sum) -/
def IsP (c : List Nat) (p : Pkt) : Prop := RangedP p ∧ FormP p ∧ bodyP p = c
theorem IsP.same {c : List Nat} {p q : Pkt} (h1 : IsP c p) (h2 : IsP c q) : p = q := bodyP_inj h1.1 h1.2.1 h2.1 h2.2.1 (h1.2.2.trans h2.2.2.symm)
theorem IsP.guess {c : List Nat} {p : Pkt} (h : IsP c p) : gsP c p.kind = p := by rw [← h.2.2]; exact gsP_body h.1 h.2.1
theorem IsP.len {c : List Nat} {p : Pkt} (h : IsP c p) : 18 ≤ c.length ∧ c.length ≤ 81 := by
  rw [← h.2.2]
  unfold bodyP
  split
  · rename_i hk
    rw [bodyD_length]
    have := (h.2.1.d hk).2
    omega
  · rw [bodyA_length]; omega
end Go.Proofs.Ytmihpbdgilmdiaa
