import Derived.Test.YtkfimdpcadbcpaaGreatDoorChecked
import Derived.WalkKit
import Derived.ProofKit
import Derived.OpenShut
import Derived.Lib.Hide
import Derived.Laws.AppendOwn
import Derived.Laws.OwnMore
import Derived.Laws.MakeOwn
import Derived.Laws.AppendOwnNone
import Derived.Deep.Draws
import Derived.Lib.BitFns
import Derived.Lib.TrailingZeros
import Derived.Laws.Bits64b
import Derived.Laws.BytesArg
import Derived.Deep.DeepHandedRow
import Derived.Deep.Strs
import Derived.LaidHandle
import Derived.Laws.Bits128
import Derived.BigQuiet
import Derived.WalkSmall
import Derived.Deep.QuietTactic
import Derived.Laws.ShiftsVar
import Derived.Laws.CopyOwn
import Derived.Deep.Cut
import Derived.OwnWalk
import Derived.WalkSpells
import Derived.WalkLawsBesides
import Derived.Deep.LoopGhost
import Derived.Deep.RegionHeld
import Derived.LaidEql
import Derived.Stop.Asserts
import Derived.RowKitTokens
import Derived.Elder7
import Derived.Defers
import Derived.Recover
import Derived.Laws.Pointers
import Derived.Deep.RegionHeld3
import Derived.ChangeSlices
import Derived.SizedLaws
import Derived.Deep.Matrix
import Derived.Deep.Grids
import Derived.Lib.SmallJoins
import Derived.Deep.AppendLies
import Derived.Deep.RegionLaw
import Derived.Maps.AppendAt
import Derived.Deep.Fields
import Derived.Test.YtkfimdpcadbcpaaGreatDoorA33
set_option linter.unusedSimpArgs false
set_option linter.unusedVariables false
set_option maxRecDepth 1000000
set_option maxHeartbeats 8000000
namespace Go.Proofs.YtkfimdpcadbcpaaGreatDoor
section
open Go.RowKit Go.Extern.Stop Go.Stop Go.Extern
theorem ListAt.take {α : Type} {f : α → Value} {w : World} {a : Option Addr} {cap : Nat} {l : List α} (h : ListAt f w (.slice a l.length cap) l) (k : Nat) (hk : k ≤ l.length) : ListAt f w (.slice a k cap) (l.take k) := by
  obtain ⟨a', cap', e, hc, hm, h⟩ := h
  cases e
  have hl : (l.take k).length = k := by rw [List.length_take]; omega
  refine ⟨a, cap, by rw [hl], by omega, hm, fun hp => ?_⟩
  obtain ⟨b, off, rfl, hcell⟩ := h (by omega)
  refine ⟨b, off, rfl, fun j hj => ?_⟩
  rw [hcell j (by omega)]
  simp
section
variable {α : Type} {f : α → Value} {w w' : World} {v : Value} {L : List (List α)}
variable {te e : TypeId} {base n : Nat} {x : Value} {r : List α} {vs : List Value}
end
section
variable {α : Type} {f : α → Value} {w w2 : World} {v v2 x : Value} {L : List (List α)} {te e : TypeId} {base : Nat} {r : List α} {vs : List Value}
end
end

section
open Go.RowKit Go.Extern.Stop Go.Stop Go.Extern
def strN (l : List Nat) : ByteArray := strOfNums (l.map Int.ofNat)
theorem ListAt.str {w : World} {v : Value} {l : List Nat} (h : ListAt byteV w v l) : (convert 31 9 v).run Tryz.prog w = .ok (.string (strN l)) w := by
  obtain ⟨a, cap, rfl, hc, -, hcell⟩ := h
  by_cases hp : 0 < l.length
  · obtain ⟨b, off, rfl, hcc⟩ := hcell hp
    refine run_convert_bytes_arg w 31 5 Tryz.underlying31 Tryz.underlying5 b off l.length cap (l.map Int.ofNat) (by simp) (fun i hi => ?_) 9 Tryz.underlying9
    rw [hcc i hi]
    simp [byteV, hi]
  · have hl : l = [] := List.eq_nil_of_length_eq_zero (by omega)
    subst hl
    cases a with
    | none => exact run_convert_bytes_nil w 31 5 Tryz.underlying31 Tryz.underlying5 _ _ 9 Tryz.underlying9
    | some ad =>
      rw [run_convert_bytes_string w 31 9 5 (some ad) _ cap Tryz.underlying31 Tryz.underlying5 Tryz.underlying9]
      exact run_bytesToString w ad 0 cap [] (run_loadCells_list (P := Tryz.prog) w ad [] (fun j v hj => by simp at hj))
end

section
theorem yBF {s b : Nat} (_ : 0 < b) : symT s b = if 0 < s % b ∨ s = 0 then s / b + 1 else s / b := by
  unfold symT upN
  by_cases h0 : s = 0
  · subst h0; simp
  · have e := Nat.div_add_mod s b
    generalize s / b = q at *
    generalize s % b = r at *
    by_cases h : 0 < r
    · rw [if_pos h, if_pos (.inl h)]; omega
    · rw [if_neg h, if_neg (by omega)]
      have : q ≠ 0 := fun h' => by rw [h', Nat.mul_zero] at e; omega
      omega
end

section
def valN (l : List Nat) : Nat := l.foldl (fun n b => 256 * n + b) 0
theorem yAu (l : List Nat) (b : Nat) : valN (l ++ [b]) = 256 * valN l + b := by
  unfold valN; rw [List.foldl_append]; rfl
theorem yA2 : ∀ (k n : Nat), n < 256 ^ k → valN (beN k n) = n
  | 0, n, h => by
    have : n = 0 := by simpa using h
    rw [this]; rfl
  | k + 1, n, h => by
    rw [beN, yAu, yA2 k (n / 256) (by rw [Nat.pow_succ] at h; omega)]
    omega
theorem yAj (n : Nat) (h : n < 256) : beN 1 n = [n] := by
  show [] ++ [n % 256] = [n]
  rw [Nat.mod_eq_of_lt h]; rfl
theorem yBY : ∀ (l : List Nat), Octets l → valN l < 256 ^ l.length := by
  have h : ∀ (k : Nat) (l : List Nat), l.length = k → Octets l → valN l < 256 ^ k := by
    intro k
    induction k with
    | zero => intro l hl _; rw [List.eq_nil_of_length_eq_zero hl]; decide
    | succ k ih =>
      intro l hl ho
      have hne : l ≠ [] := by intro e; rw [e] at hl; cases hl
      have e := List.dropLast_concat_getLast hne
      rw [← e, yAu]
      have h1 := ih l.dropLast (by rw [List.length_dropLast]; omega) fun x hx => ho x (List.dropLast_subset l hx)
      have h2 : l.getLast hne < 256 := ho _ (List.getLast_mem hne)
      rw [Nat.pow_succ]
      omega
  exact fun l ho => h _ l rfl ho
def numA (c : List Nat) (a k : Nat) : Nat := valN ((c.drop a).take k)
theorem yBI (A B : List Nat) (k n : Nat) (hn : n < 256 ^ k) (a : Nat) (ha : A.length = a) : numA (A ++ (beN k n ++ B)) a k = n := by
  unfold numA
  rw [List.drop_left' ha, List.take_left' (zBc k n), yA2 k n hn]
def gsD (c : List Nat) (kind : Int) : Pkt := ⟨kind, numA c 1 2, numA c 3 1, numA c 4 5, decide (128 ≤ numA c 9 1), ((numA c 9 1 % 128 : Nat) : Int) - 1, numA c 10 2, numA c 12 2, numA c 14 1, numA c 15 2, c.drop 17, 0, 0, 0, 0, 0, 0, 0, 0, 0⟩
def gsA (c : List Nat) (kind : Int) : Pkt := ⟨kind, numA c 1 2, numA c 3 1, numA c 4 5, false, 0, 0, 0, 0, 0, [], numA c 9 4, numA c 13 1, numA c 14 1, numA c 15 1, numA c 16 1, numA c 17 1, ((numA c 18 2 : Nat) : Int) + 1, numA c 20 2, numA c 22 2⟩
def gsP (c : List Nat) (kind : Int) : Pkt := if kind = 1 then gsD c kind else gsA c kind
theorem yAc {c A B : List Nat} {k n a : Nat} (hc : c = A ++ (beN k n ++ B)) (hn : n < 256 ^ k) (ha : A.length = a) : numA c a k = n := by rw [hc, yBI A B k n hn a ha]
theorem yBE {p : Pkt} (hk : p.kind = 1) (hr : RangedP p) (hf : FormP p) : gsD (bodyD p) p.kind = p := by
  obtain ⟨⟨y1, y2⟩, ⟨m1, m2⟩, ⟨c1, c2⟩, ⟨b1, b2⟩, ⟨e1, e2⟩⟩ := hr.d hk
  obtain ⟨⟨f1, f2, f3, f4, f5⟩, f6, f7, f8, f9, -, -⟩ := hf.d hk
  have s1 := hr.s1; have s2 := hr.s2; have l1 := hr.l1; have l2 := hr.l2; have t1 := hr.t1; have t2 := hr.t2
  have h1 : numA (bodyD p) 1 2 = p.session.toNat := yAc (A := beN 1 p.kind.toNat) (B := beN 1 p.layer.toNat ++ beN 5 p.tick.toNat ++ _) (by simp only [bodyD, wrHeadB, List.append_assoc]; rfl) (by omega) (by simp [zBc])
  have h2 : numA (bodyD p) 3 1 = p.layer.toNat := yAc (A := beN 1 p.kind.toNat ++ beN 2 p.session.toNat) (B := beN 5 p.tick.toNat ++ _) (by simp only [bodyD, wrHeadB, List.append_assoc]; rfl) (by omega) (by simp [zBc])
  have h3 : numA (bodyD p) 4 5 = p.tick.toNat := yAc (A := beN 1 p.kind.toNat ++ beN 2 p.session.toNat ++ beN 1 p.layer.toNat) (by simp only [bodyD, wrHeadB, List.append_assoc]; rfl) (by omega) (by simp [zBc])
  have h4 : numA (bodyD p) 9 1 = (p.sync + 1).toNat + (if p.burst then 128 else 0) := yAc (A := wrHeadB p) (by simp only [bodyD]; rfl) (by split <;> omega) (zCx p)
  have h5 : numA (bodyD p) 10 2 = p.many.toNat := yAc (A := wrHeadB p ++ beN 1 _) (by simp only [bodyD, List.append_assoc]; rfl) (by omega) (by simp [zBc, zCx])
  have h6 : numA (bodyD p) 12 2 = p.place.toNat := yAc (A := wrHeadB p ++ beN 1 _ ++ beN 2 p.many.toNat) (by simp only [bodyD, List.append_assoc]; rfl) (by omega) (by simp [zBc, zCx])
  have h7 : numA (bodyD p) 14 1 = p.block.toNat := yAc (A := wrHeadB p ++ beN 1 _ ++ beN 2 p.many.toNat ++ beN 2 p.place.toNat) (by simp only [bodyD, List.append_assoc]; rfl) (by omega) (by simp [zBc, zCx])
  have h8 : numA (bodyD p) 15 2 = p.esi.toNat := yAc (A := wrHeadB p ++ beN 1 _ ++ beN 2 p.many.toNat ++ beN 2 p.place.toNat ++ beN 1 p.block.toNat) (by simp only [bodyD, List.append_assoc]; rfl) (by omega) (by simp [zBc, zCx])
  have h9 : (bodyD p).drop 17 = p.data := by
    have e : bodyD p = (wrHeadB p ++ beN 1 ((p.sync + 1).toNat + (if p.burst then 128 else 0)) ++ beN 2 p.many.toNat ++ beN 2 p.place.toNat ++ beN 1 p.block.toNat ++ beN 2 p.esi.toNat) ++ p.data := by simp only [bodyD, List.append_assoc]
    rw [e, List.drop_left' (by simp [zBc, zCx])]
  unfold gsD
  rw [h1, h2, h3, h4, h5, h6, h7, h8, h9]
  ext1 <;> simp only [hk, f1, f2, f3, f4, f5, f6, f7, f8, f9] <;> first | rfl | (cases hb : p.burst <;> simp <;> omega) | omega
theorem yBO {p : Pkt} (hk : p.kind = 2) (hr : RangedP p) (hf : FormP p) : gsA (bodyA p) p.kind = p := by
  obtain ⟨z0, z1, ⟨y1, y2⟩, ⟨e1, e2⟩, ⟨b1, b2⟩, ⟨n1, n2⟩⟩ := hr.a hk
  obtain ⟨f1, f2, f3, f4, f5, f6, f7, f8⟩ := hf.a hk
  obtain ⟨s', b', n', l', q', g1, g2, g3, g4, g5, hp⟩ := zDS f8
  have q1 := hp.b64; have q2 := hp.n16; have q3 := hp.lt; have q4 := hp.q128
  have s1 := hr.s1; have s2 := hr.s2; have l1 := hr.l1; have l2 := hr.l2; have t1 := hr.t1; have t2 := hr.t2
  have h1 : numA (bodyA p) 1 2 = p.session.toNat := yAc (A := beN 1 p.kind.toNat) (B := beN 1 p.layer.toNat ++ beN 5 p.tick.toNat ++ _) (by simp only [bodyA, wrHeadB, List.append_assoc]; rfl) (by omega) (by simp [zBc])
  have h2 : numA (bodyA p) 3 1 = p.layer.toNat := yAc (A := beN 1 p.kind.toNat ++ beN 2 p.session.toNat) (B := beN 5 p.tick.toNat ++ _) (by simp only [bodyA, wrHeadB, List.append_assoc]; rfl) (by omega) (by simp [zBc])
  have h3 : numA (bodyA p) 4 5 = p.tick.toNat := yAc (A := beN 1 p.kind.toNat ++ beN 2 p.session.toNat ++ beN 1 p.layer.toNat) (by simp only [bodyA, wrHeadB, List.append_assoc]; rfl) (by omega) (by simp [zBc])
  have h4 : numA (bodyA p) 9 4 = p.size.toNat := yAc (A := wrHeadB p) (by simp only [bodyA]; rfl) (by omega) (zCx p)
  have h5 : numA (bodyA p) 13 1 = p.symbol.toNat := yAc (A := wrHeadB p ++ beN 4 p.size.toNat) (by simp only [bodyA, List.append_assoc]; rfl) (by omega) (by simp [zBc, zCx])
  have h6 : numA (bodyA p) 14 1 = p.blocks.toNat := yAc (A := wrHeadB p ++ beN 4 p.size.toNat ++ beN 1 p.symbol.toNat) (by simp only [bodyA, List.append_assoc]; rfl) (by omega) (by simp [zBc, zCx])
  have h7 : numA (bodyA p) 15 1 = p.long.toNat := yAc (A := wrHeadB p ++ beN 4 p.size.toNat ++ beN 1 p.symbol.toNat ++ beN 1 p.blocks.toNat) (by simp only [bodyA, List.append_assoc]; rfl) (by omega) (by simp [zBc, zCx])
  have h8 : numA (bodyA p) 16 1 = p.short.toNat := yAc (A := wrHeadB p ++ beN 4 p.size.toNat ++ beN 1 p.symbol.toNat ++ beN 1 p.blocks.toNat ++ beN 1 p.long.toNat) (by simp only [bodyA, List.append_assoc]; rfl) (by omega) (by simp [zBc, zCx])
  have h9 : numA (bodyA p) 17 1 = p.layers.toNat := yAc (A := wrHeadB p ++ beN 4 p.size.toNat ++ beN 1 p.symbol.toNat ++ beN 1 p.blocks.toNat ++ beN 1 p.long.toNat ++ beN 1 p.short.toNat) (by simp only [bodyA, List.append_assoc]; rfl) (by omega) (by simp [zBc, zCx])
  have h10 : numA (bodyA p) 18 2 = (p.esis - 1).toNat := yAc (A := wrHeadB p ++ beN 4 p.size.toNat ++ beN 1 p.symbol.toNat ++ beN 1 p.blocks.toNat ++ beN 1 p.long.toNat ++ beN 1 p.short.toNat ++ beN 1 p.layers.toNat) (by simp only [bodyA, List.append_assoc]; rfl) (by omega) (by simp [zBc, zCx])
  have h11 : numA (bodyA p) 20 2 = p.base.toNat := yAc (A := wrHeadB p ++ beN 4 p.size.toNat ++ beN 1 p.symbol.toNat ++ beN 1 p.blocks.toNat ++ beN 1 p.long.toNat ++ beN 1 p.short.toNat ++ beN 1 p.layers.toNat ++ beN 2 (p.esis - 1).toNat) (by simp only [bodyA, List.append_assoc]; rfl) (by omega) (by simp [zBc, zCx])
  have h12 : numA (bodyA p) 22 2 = p.length.toNat := yAc (A := wrHeadB p ++ beN 4 p.size.toNat ++ beN 1 p.symbol.toNat ++ beN 1 p.blocks.toNat ++ beN 1 p.long.toNat ++ beN 1 p.short.toNat ++ beN 1 p.layers.toNat ++ beN 2 (p.esis - 1).toNat ++ beN 2 p.base.toNat) (B := []) (by simp only [bodyA, List.append_assoc, List.append_nil]) (by omega) (by simp [zBc, zCx])
  unfold gsA
  rw [h1, h2, h3, h4, h5, h6, h7, h8, h9, h10, h11, h12]
  ext1 <;> simp only [hk, f1, f2, f3, f4, f5, f6, f7] <;> first | rfl | omega
theorem yAE {p : Pkt} (hr : RangedP p) (hf : FormP p) : gsP (bodyP p) p.kind = p := by
  unfold gsP bodyP
  by_cases hk : p.kind = 1
  · rw [if_pos hk, if_pos hk]; exact yBE hk hr hf
  · rw [if_neg hk, if_neg hk]; exact yBO (by have := hr.k1; have := hr.k2; omega) hr hf
theorem yAB {p : Pkt} (hr : RangedP p) : (bodyP p)[0]? = some p.kind.toNat := by
  have k1 := hr.k1; have k2 := hr.k2
  have h : beN 1 p.kind.toNat = [p.kind.toNat] := yAj _ (by omega)
  unfold bodyP bodyD bodyA wrHeadB
  rw [h]
  split <;> rfl
theorem yBy {p q : Pkt} (h1 : RangedP p) (h2 : FormP p) (h3 : RangedP q) (h4 : FormP q) (h : bodyP p = bodyP q) : p = q := by
  have hk : p.kind = q.kind := by
    have e1 := yAB h1
    have e2 := yAB h3
    rw [h, e2] at e1
    have e3 := Option.some.inj e1
    have := h1.k1; have := h3.k1
    omega
  rw [← yAE h1 h2, ← yAE h3 h4, h, hk]
theorem IsPkt.same {c : List Nat} {p q : Pkt} (h1 : IsPkt c p) (h2 : IsPkt c q) : p = q := yBy h1.1 h1.2.1 h2.1 h2.2.1 (h1.2.2.trans h2.2.2.symm)
theorem IsPkt.guess {c : List Nat} {p : Pkt} (h : IsPkt c p) : gsP c p.kind = p := by rw [← h.2.2]; exact yAE h.1 h.2.1
end

section
theorem yAp {s : Snd} {t k : Nat} {l : List (Nat × Nat)} {p : Pkt} (h : p ∈ datL s t k l) : ∃ j x, j < l.length ∧ x ∈ l ∧ p = sdP s t k (manyS s t k) j x.2 x.1 := by
  unfold datL at h
  rw [List.mem_mapIdx] at h
  obtain ⟨j, hj, rfl⟩ := h
  exact ⟨j, _, hj, List.getElem_mem hj, rfl⟩
theorem yBD (s : Snd) (t k : Nat) (l : List (Nat × Nat)) {j : Nat} (hj : j < l.length) : (datL s t k l)[j]? = some (sdP s t k (manyS s t k) j l[j].2 l[j].1) := by
  unfold datL
  rw [List.getElem?_mapIdx, List.getElem?_eq_getElem hj]
  rfl
theorem mem_stpL {s : Snd} {k : Nat} {X : List Nat} {e i : Nat} : (e, i) ∈ stpL s k X ↔ (∃ x ∈ X, e ∈ esiS s k x) ∧ i < s.blocks := by
  unfold stpL esiL blkL
  simp only [List.mem_flatMap, List.mem_map, List.mem_range, Prod.mk.injEq]
  constructor
  · rintro ⟨x, hx, e', he, i', hi, rfl, rfl⟩; exact ⟨⟨x, hx, he⟩, hi⟩
  · rintro ⟨⟨x, hx, he⟩, hi⟩; exact ⟨x, hx, e, he, i, hi, rfl, rfl⟩
theorem yBb {s : Snd} (h : SndOk s) {t k : Nat} (ht : t ≤ 1099511627775) (hk : k < s.g) {p : Pkt} (hp : p ∈ layP s t k) : ckN p = 0 := by
  obtain ⟨j, ⟨e, i⟩, hj, hx, rfl⟩ := yAp hp
  rw [zCU] at hj
  obtain ⟨⟨x, -, he⟩, hi⟩ := mem_stpL.1 hx
  exact zI8 h ht hk hj hi (h.esi hk he)
theorem yAZ {s : Snd} (h : SndOk s) {t : Nat} (ht : t ≤ 1099511627775) {p : Pkt} (hp : p ∈ packL19 s t) : ckN p = 0 := by
  rcases List.mem_append.1 hp with h1 | h1
  · unfold annL at h1
    split at h1
    · rw [List.mem_singleton.1 h1]; exact zIg h ht
    · cases h1
  · obtain ⟨k, hk, hp'⟩ := List.mem_flatMap.1 h1
    exact yBb h ht (List.mem_range.1 hk) hp'
end

section
open Go.RowKit Go.Extern.Stop Go.Stop Go.Extern
theorem yAD {w : World} (s b : Nat) (hb : 1 ≤ b) (hs : s ≤ 9223372036854775807) :
    Calls Tryz.prog 56 #[.int .i64 (s : Int), .int .i64 (b : Int)] w fun e w' => e = .returned (.int .i64 ((symT s b : Nat) : Int)) ∧ w = w' := by
  have h0 : ¬ (b : Int) = 0 := by omega
  have hz : ((b : Int) == 0) = false := by simpa using h0
  have hle := zEA (s := s) hb
  have hT := yBF (s := s) hb
  have HT := lhd hT
  clear hT
  go_enter Tryz.func56, Tryz.ntmps56
  go_wp2_with fail
  · rename_i h1 h2
    go_ret
    have h' : ¬ 0 < s % b := fun k => by have := (zJo s b).2 k; omega
    refine ⟨?_, rfl⟩
    show Ending.returned (Value.int .i64 (wrap64 (wrap64 ((s : Int) / (b : Int)) + 1))) = _
    have hs0 : s = 0 := by
      rcases h2 with h2 | h2
      · omega
      · have : (s : Int) = 0 := by simpa using h2
        omega
    subst hs0
    rw [zGV 0 b hs, HT.out, if_pos (.inr rfl)]
    simp [wrap64]
  · rename_i h1 h2
    go_ret
    have h' : ¬ 0 < s % b := fun k => by have := (zJo s b).2 k; omega
    refine ⟨?_, rfl⟩
    show Ending.returned (Value.int .i64 (wrap64 ((s : Int) / (b : Int)))) = _
    have hs0 : ¬ s = 0 := by
      intro hs0; subst hs0; simp at h2
    rw [zGV s b hs, HT.out, if_neg (by omega)]
  · rename_i h1
    go_ret
    have h' : 0 < s % b := (zJo s b).1 h1
    refine ⟨?_, rfl⟩
    show Ending.returned (Value.int .i64 (wrap64 (wrap64 ((s : Int) / (b : Int)) + 1))) = _
    have hT := HT.out
    rw [if_pos (.inl h')] at hT
    rw [hT] at hle ⊢
    rw [zGV s b hs]
    generalize s / b = q at *
    have : s ≠ 0 := fun h0 => by rw [h0] at h'; simp at h'
    congr 2
    unfold wrap64; omega
end

section
open Go.RowKit Go.Extern.Stop Go.Stop Go.Extern
theorem yAX {w : World} (s b n l q : Int) (hs : I64 s) (hb : I64 b) (hn : I64 n) (hl : I64 l) (hq : I64 q) :
    Calls Tryz.prog 75 #[plV s b n l q] w fun e w' => e = .returned (.int .i64 (planC s b n l q)) ∧ Below w.heap.size w w' := by
  by_cases hA : s < 0 ∨ b < 1 ∨ 64 < b
  · have hP : planC s b n l q = 1 := by unfold planC; rw [if_pos hA]
    rw [hP]
    unfold plV plC
    go_enter Tryz.func75, Tryz.ntmps75
    go_wp2_with fail
    all_goals first
      | (go_ret; exact ⟨rfl, (Below.refl _ _).alloc (Nat.le_refl _) _⟩)
      | (exfalso; omega)
  have a1 : decide (s < 0) = false := decide_eq_false (by omega)
  have a2 : decide (b < 1) = false := decide_eq_false (by omega)
  have a3 : decide (64 < b) = false := decide_eq_false (by omega)
  by_cases hB : n < 1 ∨ 16 < n ∨ l < 0 ∨ n ≤ l ∨ q < 1 ∨ 128 < q
  · have hP : planC s b n l q = 2 := by unfold planC; rw [if_neg hA, if_pos (by omega)]
    rw [hP]
    clear hA
    unfold plV plC
    go_enter Tryz.func75, Tryz.ntmps75
    go_wp2_with fail
    all_goals first
      | (go_ret; exact ⟨rfl, (Below.refl _ _).alloc (Nat.le_refl _) _⟩)
      | (exfalso; omega)
  have b1 : decide (n < 1) = false := decide_eq_false (by omega)
  have b2 : decide (16 < n) = false := decide_eq_false (by omega)
  have b3 : decide (l < 0) = false := decide_eq_false (by omega)
  have b4 : decide (n ≤ l) = false := decide_eq_false (by omega)
  have c1 : decide (q < 1) = false := decide_eq_false (by omega)
  have c2 : decide (128 < q) = false := decide_eq_false (by omega)
  have HQ : Hid (planC s b n l q = if 0 < l ∧ q = 128 then 2 else if n * q + l = (symT s.toNat b.toNat : Int) then 0 else 2) := lhd (by
    unfold planC
    rw [if_neg hA]
    by_cases h : 0 < l ∧ q = 128
    · rw [if_pos (by omega), if_pos h]
    · rw [if_neg (by omega), if_neg h])
  by_cases hD : 0 < l ∧ q = 128
  · have hP : planC s b n l q = 2 := by rw [HQ.out, if_pos hD]
    rw [hP]
    have d1 : decide (0 < l) = true := decide_eq_true hD.1
    have d2 : (q == 128) = true := by simpa using hD.2
    clear hA hB hD
    unfold plV plC
    go_enter Tryz.func75, Tryz.ntmps75
    go_wp2_with fail
    go_ret
    exact ⟨rfl, (Below.refl _ _).alloc (Nat.le_refl _) _⟩
  obtain ⟨S, hS⟩ : ∃ S : Nat, s = S := ⟨s.toNat, by omega⟩
  obtain ⟨B, hB'⟩ : ∃ B : Nat, b = B := ⟨b.toNat, by omega⟩
  subst hS hB'
  have hqp : 0 ≤ n * q := Int.mul_nonneg (by omega) (by omega)
  have hqm : n * q ≤ 2048 := by
    have h1 : n * q ≤ 16 * q := Int.mul_le_mul_of_nonneg_right (by omega) (by omega)
    omega
  have HSY : Hid (∀ V : World, Calls Tryz.prog 56 #[.int .i64 (S : Int), .int .i64 (B : Int)] V fun e w' => e = .returned (.int .i64 ((symT S B : Nat) : Int)) ∧ w' = V) := lhd fun V => (yAD S B (by omega) (by unfold I64 at hs; omega)).mono (by rintro e w' ⟨rfl, rfl⟩; exact ⟨rfl, rfl⟩)
  have hT : symT S B ≤ 9223372036854775807 := by have := zEA (s := S) (b := B) (by omega); unfold I64 at hs; omega
  obtain ⟨r, hr⟩ : ∃ r : Int, r = if n * q + l = (symT S B : Int) then 0 else 2 := ⟨_, rfl⟩
  have hP : planC (S : Int) (B : Int) n l q = r := by rw [HQ.out, if_neg hD, hr]; simp
  have HR := lhd hr
  rw [hP]
  have HDD : decide (0 < l) = false ∨ decide (0 < l) = true ∧ (q == 128) = false := by
    by_cases h : 0 < l
    · exact .inr ⟨decide_eq_true h, by simp; omega⟩
    · exact .inl (decide_eq_false h)
  have hE : (n * q + l != (symT S B : Int)) = true ∧ r = 2 ∨ (n * q + l != (symT S B : Int)) = false ∧ r = 0 := by
    by_cases hE : n * q + l = (symT S B : Int)
    · exact .inr ⟨by simpa using hE, by rw [hr, if_pos hE]⟩
    · exact .inl ⟨by simpa using hE, by rw [hr, if_neg hE]⟩
  have hqn : n * q + l ≤ 2064 := by omega
  have hln : 0 ≤ l := by omega
  clear hs hb hn hl hq hA hB hP hr HR hD
  unfold plV plC
  obtain ⟨W0, hW0, hb0, hbx⟩ := zAv w (S : Int) (B : Int) n l q
  have HW0 := lhd hW0
  have HB0 := lhd hb0
  clear hW0 hb0 hbx
  rcases HDD with d1 | ⟨d1, d2⟩
  all_goals
    rcases hE with ⟨e1, hr⟩ | ⟨e1, hr⟩
    all_goals
      have HR := lhd hr
      clear hr
      go_enter Tryz.func75, Tryz.ntmps75
      go_upto_region 5 with fail
      go_quiet (exact Calls.quiet_of_same (HSY.out _))
      go_wp2
      go_ret
      exact ⟨by rw [HR.out]; rfl, zDe ((Below.refl _ _).alloc (Nat.le_refl _) _) _⟩
end

section
open Go.RowKit Go.Extern.Stop Go.Stop Go.Extern Go.Joins Go.Deep Go.WideShapes Go.ChangeShapes Go.ChangeAt
section
variable {H : Type} {enc : TypeId × Value → H}
theorem yBm {P : Program} {W : World} {fs : Array Field} {xs : List (DataW H × List MemPlace)} {cs : List Value} {n : Nat} (hff : ∀ (i : Nat) (f : Field), fs[i]? = some f → DataW.trod enc P W 0 (fun _ => true) true n f.type ((cs.drop f.offset).take (P.cellsOf f.type)) = xs[i]?)
    (i : Nat) (f : Field) (hf : fs[i]? = some f) {k : Nat} (hk : P.cellsOf f.type = k) {y : DataW H × List MemPlace} (hy : xs[i]? = some y) : DataW.trod enc P W 0 (fun _ => true) true n f.type ((cs.drop f.offset).take k) = some y := by rw [← hk, hff i f hf, hy]
theorem yB6 {u : TypeId} {W : World} {n : Nat} {c : Value} {y : DataW H × List MemPlace} (hu : Tryz.prog.underlying u = some (.int .i64)) (hg : DataW.trod enc Tryz.prog W 0 (fun _ => true) true n u [c] = some y) : ∃ m : Int, c = .int .i64 m ∧ I64 m := by
  obtain ⟨m, hm, -, hw⟩ := DataW.trod_int hu hg
  exact ⟨m, by simpa using hm, by simpa [Lit.wf, IntKind.min, IntKind.max, IntKind.signed, IntKind.bits] using hw⟩
theorem yBW {u : TypeId} {W : World} {n : Nat} {c : Value} {y : DataW H × List MemPlace} (hu : Tryz.prog.underlying u = some (.int .u8)) (hg : DataW.trod enc Tryz.prog W 0 (fun _ => true) true n u [c] = some y) : ∃ m : Nat, c = .int .u8 (m : Int) ∧ m < 256 := by
  obtain ⟨m, hm, -, hw⟩ := DataW.trod_int hu hg
  have hb : 0 ≤ m ∧ m ≤ 255 := by simpa [Lit.wf, IntKind.min, IntKind.max, IntKind.signed, IntKind.bits] using hw
  exact ⟨m.toNat, by rw [show ((m.toNat : Nat) : Int) = m by omega]; simpa using hm, by omega⟩
theorem yB8 {b0 : Nat} {v : Value} {d : DataW H} {ps : List MemPlace} {W : World}
    (hv : Value.okWide Tryz.prog W .any b0 55 v) (h : DataW.Trod enc Tryz.prog W 0 (fun _ => true) true 55 v d ps) :
    ∃ (a b : Nat) (x : Int), v = .agg #[.int .u8 (a : Int), .int .u8 (b : Int), .int .i64 x] ∧ a < 256 ∧ b < 256 ∧ I64 x := by
  have k1 : Tryz.prog.cellsOf 3 = 1 := by kernel_rfl
  have k8 : Tryz.prog.cellsOf 5 = 1 := by kernel_rfl
  have hC : Tryz.prog.cellsOf 55 = 3 := by kernel_rfl
  obtain ⟨cs, rfl, hsz⟩ := okWide_struct Tryz.underlying55 hv
  obtain ⟨fuel, hf⟩ := h
  obtain ⟨xs, n, _, hx, hl, hlen, hff⟩ := DataW.trod_struct Tryz.underlying55 hf
  obtain ⟨l⟩ := cs
  have hl3 : l.length = 3 := hsz.trans hC
  clear hv hf hl hsz
  match l, hl3 with
  | [c0, c1, c2], _ =>
    match xs, hlen with
    | [y0, y1, y2], _ =>
      have g0 : DataW.trod enc Tryz.prog W 0 (fun _ => true) true n 5 [c0] = some y0 := by
        have := yBm hff 0 _ rfl k8 rfl
        exact this
      have g1 : DataW.trod enc Tryz.prog W 0 (fun _ => true) true n 5 [c1] = some y1 := by
        have := yBm hff 1 _ rfl k8 rfl
        exact this
      have g2 : DataW.trod enc Tryz.prog W 0 (fun _ => true) true n 3 [c2] = some y2 := by
        have := yBm hff 2 _ rfl k1 rfl
        exact this
      clear hff
      obtain ⟨m0, rfl, w0⟩ := yBW Tryz.underlying5 g0
      obtain ⟨m1, rfl, w1⟩ := yBW Tryz.underlying5 g1
      obtain ⟨m2, rfl, w2⟩ := yB6 Tryz.underlying3 g2
      exact ⟨m0, m1, m2, rfl, w0, w1, w2⟩
end
end

section
open Go.RowKit Go.Extern.Stop Go.Stop Go.Extern
def PktAt (w : World) (v : Value) (p : Pkt) : Prop := ∃ D, v = pktV p D ∧ ListAt byteV w D p.data
def PktNew (B : Nat) (w : World) (v : Value) (p : Pkt) : Prop := ∃ D, v = pktV p D ∧ ListAt byteV w D p.data ∧ ∀ b, D.ownBlock = some b → B ≤ b
end

section
open Go.RowKit Go.Extern.Stop Go.Stop Go.Extern
def noNum : Num4 := (0, 0, 0, 0)
def NumsAt (W : World) (v : Value) (L : List Num4) : Prop :=
  ∃ b, v = .slice (some ⟨b, 0, none⟩) L.length L.length ∧ ∀ j, j < L.length →
    W.cell? ⟨b, j * 4, none⟩ = some (.int .i64 (L.getD j noNum).1) ∧ W.cell? ⟨b, j * 4 + 1, none⟩ = some (.int .i64 (L.getD j noNum).2.1) ∧
    W.cell? ⟨b, j * 4 + 2, none⟩ = some (.int .i64 (L.getD j noNum).2.2.1) ∧ W.cell? ⟨b, j * 4 + 3, none⟩ = some (.int .i64 (L.getD j noNum).2.2.2)
theorem yBC {L : List Num4} {j : Nat} (hj : j < L.length) (h : FitL L) : FitN (L.getD j noNum) := by
  rw [List.getD_eq_getElem?_getD, List.getElem?_eq_getElem hj]
  exact h _ (List.getElem_mem hj)
theorem yBT {L : List Num4} (h : ∀ j, j < L.length → FitN (L.getD j noNum)) : FitL L := fun x hx => by
  obtain ⟨j, hj, rfl⟩ := List.mem_iff_getElem.1 hx
  have := h j hj
  rwa [List.getD_eq_getElem?_getD, List.getElem?_eq_getElem hj] at this
theorem yBq {w : World} (v : Value) (L : List Num4) (h : NumsAt w v L) (hL : L.length ≤ 100) : Calls Tryz.prog 111 #[v] w fun e w' => e = .returned (.bool (decide (FitL L))) ∧ Below w.heap.size w w' := by
  obtain ⟨b, rfl, hc⟩ := h
  have HC := lhd hc
  have HG : Hid (∀ j, j < L.length → FitL L → FitN (L.getD j noNum)) := lhd fun j hj h => yBC hj h
  have HA : Hid ((∀ j, j < L.length → FitN (L.getD j noNum)) → FitL L) := lhd yBT
  clear hc
  go_enter Tryz.func111, Tryz.ntmps111
  go_wp2_with fail
  go_loopw [3] (fun i wr => ∃ j : Nat, j ≤ L.length ∧ i = .int .i64 (j : Int) ∧ (∀ t, t < j → FitN (L.getD t noNum)) ∧ Below w.heap.size w wr) (fun i _ => L.length - (intOf i).toNat)
  case atStart => exact ⟨0, by omega, rfl, fun t ht => by omega, Below.refl _ _⟩
  case round =>
    obtain ⟨j, hj, rfl, hall, hbel⟩ := hrel
    have HAL := lhd hall
    have HB := lhd hbel
    clear hall hbel
    by_cases hlt : j < L.length
    · have d1 : decide ((j : Int) < (L.length : Int)) = true := decide_eq_true (by omega)
      obtain ⟨q0, q1, q2, q3⟩ := HC.out j hlt
      have hl := World.block_lt_of_cell? w _ q0
      have p0 := (HB.out.cell (p := ⟨b, j * 4, none⟩) hl).trans q0
      have p2 := (HB.out.cell (p := ⟨b, j * 4 + 2, none⟩) hl).trans q2
      have p3 := (HB.out.cell (p := ⟨b, j * 4 + 3, none⟩) hl).trans q3
      have HGJ := lhd (HG.out j hlt)
      have HF : Hid (FitN (L.getD j noNum) ↔ (L.getD j noNum).2.2.1 ≤ (L.getD j noNum).1 ∧ (L.getD j noNum).1 ≤ (L.getD j noNum).2.2.2) := lhd Iff.rfl
      clear q0 q1 q2 q3 hl
      obtain ⟨n, hn⟩ : ∃ n, n = (L.getD j noNum).1 := ⟨_, rfl⟩
      obtain ⟨fr, hfr⟩ : ∃ n, n = (L.getD j noNum).2.2.1 := ⟨_, rfl⟩
      obtain ⟨tt, htt⟩ : ∃ n, n = (L.getD j noNum).2.2.2 := ⟨_, rfl⟩
      rw [← hn] at p0
      rw [← hfr] at p2
      rw [← htt] at p3
      rw [← hn, ← hfr, ← htt] at HF
      clear hn hfr htt
      go_upto_region 4 with fail
      by_cases g1 : n < fr
      · have e1 : decide (n < fr) = true := decide_eq_true g1
        have HN : Hid (¬ FitL L) := lhd fun h => by
          have := HF.out.1 (HGJ.out h)
          omega
        clear g1
        go_quiet (fail)
        have HBN := lhd (zDe HB.out nq)
        go_wp2
        go_ret
        exact ⟨by rw [decide_eq_false HN.out]; rfl, HBN.out⟩
      · have e1 : decide (n < fr) = false := decide_eq_false g1
        by_cases g2 : tt < n
        · have e2 : decide (tt < n) = true := decide_eq_true g2
          have HN : Hid (¬ FitL L) := lhd fun h => by
            have := HF.out.1 (HGJ.out h)
            omega
          clear g1 g2
          go_quiet (fail)
          have HBN := lhd (zDe HB.out nq)
          go_wp2
          go_ret
          exact ⟨by rw [decide_eq_false HN.out]; rfl, HBN.out⟩
        · have e2 : decide (tt < n) = false := decide_eq_false g2
          have HN : Hid (∀ t, t < j + 1 → FitN (L.getD t noNum)) := lhd fun t ht => by
            by_cases e : t = j
            · rw [e]; exact HF.out.2 ⟨by omega, by omega⟩
            · exact HAL.out t (by omega)
          clear g1 g2
          go_quiet (fail)
          have HBN := lhd (zDe HB.out nq)
          go_wp2
          go_roundw
          case rel => exact ⟨j + 1, hlt, by go_num, HN.out, HBN.out⟩
          case measure => simp [intOf]; omega
    · obtain rfl : j = L.length := by omega
      have d1 : decide ((L.length : Int) < (L.length : Int)) = false := decide_eq_false (by omega)
      have HN := lhd (HA.out HAL.out)
      go_wp2
      go_ret
      exact ⟨by rw [decide_eq_true HN.out]; rfl, HB.out⟩
end

section
open Go.RowKit Go.Extern.Stop Go.Stop Go.Extern
def flatN : List Num4 → List Value
  | [] => []
  | x :: L => .int .i64 x.1 :: .int .i64 x.2.1 :: .int .i64 x.2.2.1 :: .int .i64 x.2.2.2 :: flatN L
theorem yAN : ∀ (L : List Num4) (j : Nat), j < L.length → (flatN L)[j * 4]? = some (.int .i64 (L.getD j noNum).1) ∧ (flatN L)[j * 4 + 1]? = some (.int .i64 (L.getD j noNum).2.1) ∧
    (flatN L)[j * 4 + 2]? = some (.int .i64 (L.getD j noNum).2.2.1) ∧ (flatN L)[j * 4 + 3]? = some (.int .i64 (L.getD j noNum).2.2.2)
  | [], j, h => by simp at h
  | x :: L, 0, _ => ⟨rfl, rfl, rfl, rfl⟩
  | x :: L, j + 1, h => by
    have := yAN L j (by simpa using h)
    rw [show (j + 1) * 4 = j * 4 + 1 + 1 + 1 + 1 by omega]
    exact this
theorem yAG (w : World) (L : List Num4) (T : TypeId) : NumsAt (w.alloc (.cells (flatN L).toArray T)) (.slice (some ⟨w.heap.size, 0, none⟩) L.length L.length) L := by
  refine ⟨_, rfl, fun j hj => ?_⟩
  obtain ⟨h0, h1, h2, h3⟩ := yAN L j hj
  have hh := heap_alloc_new w (.cells (flatN L).toArray T)
  exact ⟨zAa hh (by simpa using h0), zAa hh (by simpa using h1), zAa hh (by simpa using h2), zAa hh (by simpa using h3)⟩
def headN (p : Pkt) : List Num4 := [(p.kind, 1, 1, 2), (p.session, 2, 0, 65535), (p.layer, 1, 0, 7), (p.tick, 5, 0, 1099511627775)]
def dataN (p : Pkt) : List Num4 := [(p.sync + 1, 1, 0, 8), (p.many, 2, 1, 4096), (p.place, 2, 0, IntKind.i64.wrap (p.many - 1)), (p.block, 1, 0, 15), (p.esi, 2, 0, 65535)]
def annN (p : Pkt) : List Num4 := [(p.size, 4, -9223372036854775808, 4294967295), (p.layers, 1, 1, 8), (p.esis, 2, 1, 65536), (p.base, 2, 2, 4096), (p.length, 2, 1, p.base - 1)]
theorem yAv {w : World} (p : Pkt) (D : Value) : Calls Tryz.prog 77 #[pktV p D] w fun e w' => ∃ v, e = .returned v ∧ NumsAt w' v (headN p) ∧ Below w.heap.size w w' := by
  obtain ⟨W1, hW1, hb1, hx1⟩ := zAz w p D
  have HB := lhd hb1
  have HW := lhd hW1
  obtain ⟨a0, a1, a2, a3, -⟩ := hx1.cells
  have HN := lhd (yAG W1 (headN p) 204)
  unfold pktC at HW
  unfold pktV pktC
  clear hW1 hb1 hx1
  go_enter Tryz.func77, Tryz.ntmps77
  go_upto_region 1 with fail
  rw [← HW.out]
  go_wp2
  go_ret
  exact ⟨_, rfl, HN.out, HB.out.alloc HB.out.size _⟩
theorem yAK {w : World} (p : Pkt) (D : Value) (h1 : -1 ≤ p.sync) (h2 : p.sync ≤ 7) : Calls Tryz.prog 78 #[pktV p D] w fun e w' => ∃ v, e = .returned v ∧ NumsAt w' v (dataN p) ∧ Below w.heap.size w w' := by
  obtain ⟨W1, hW1, hb1, hx1⟩ := zAz w p D
  have HB := lhd hb1
  have HW := lhd hW1
  obtain ⟨-, -, -, -, -, a5, a6, a7, a8, a9, -⟩ := hx1.cells
  have HN := lhd (yAG W1 (dataN p) 204)
  have hw := IntWalk.i64_in (p.sync + 1) (by omega)
  have HD : Hid (flatN (dataN p) = [.int .i64 (p.sync + 1), .int .i64 1, .int .i64 0, .int .i64 8, .int .i64 p.many, .int .i64 2, .int .i64 1, .int .i64 4096, .int .i64 p.place, .int .i64 2, .int .i64 0, .int .i64 (IntKind.i64.wrap (p.many - 1)), .int .i64 p.block, .int .i64 1, .int .i64 0, .int .i64 15, .int .i64 p.esi, .int .i64 2, .int .i64 0, .int .i64 65535]) := lhd rfl
  rw [HD.out] at HN
  obtain ⟨z, hz⟩ : ∃ z, IntKind.i64.wrap (p.many - 1) = z := ⟨_, rfl⟩
  rw [hz] at HN
  unfold pktC at HW
  unfold pktV pktC
  clear hW1 hb1 hx1 HD
  go_enter Tryz.func78, Tryz.ntmps78
  go_upto_region 1 with fail
  rw [← HW.out]
  go_wp2
  go_ret
  exact ⟨_, rfl, HN.out, HB.out.alloc HB.out.size _⟩
theorem yBG {w : World} (p : Pkt) (D : Value) (h1 : 2 ≤ p.base) (h2 : p.base ≤ 9223372036854775807) : Calls Tryz.prog 112 #[pktV p D] w fun e w' => ∃ v, e = .returned v ∧ NumsAt w' v (annN p) ∧ Below w.heap.size w w' := by
  obtain ⟨W1, hW1, hb1, hx1⟩ := zAz w p D
  have HB := lhd hb1
  have HW := lhd hW1
  obtain ⟨-, -, -, -, -, -, -, -, -, -, -, a11, a12, a13, a14, a15, a16, a17, a18, a19⟩ := hx1.cells
  have HN := lhd (yAG W1 (annN p) 204)
  have hw := IntWalk.i64_in (p.base - 1) (by omega)
  unfold pktC at HW
  unfold pktV pktC
  clear hW1 hb1 hx1
  go_enter Tryz.func112, Tryz.ntmps112
  go_upto_region 1 with fail
  rw [← HW.out]
  go_wp2
  go_ret
  exact ⟨_, rfl, HN.out, HB.out.alloc HB.out.size _⟩
end
end Go.Proofs.YtkfimdpcadbcpaaGreatDoor
