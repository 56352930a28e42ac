import Derived.Test.YtkfimdpcadbcpaaGreatDoorA06
import Derived.Test.YtkfimdpcadbcpaaGreatDoorA05
import Derived.Test.YtkfimdpcadbcpaaGreatDoorA02
import Derived.Test.YtkfimdpcadbcpaaGreatDoorA01
import Derived.ChangeSlices
import Derived.SizedLaws
import Derived.Deep.Matrix
import Derived.Deep.Grids
import Derived.Lib.SmallJoins
set_option linter.unusedSimpArgs false
set_option linter.unusedVariables false
set_option maxRecDepth 1000000
set_option maxHeartbeats 8000000
namespace Go.Proofs.YtkfimdpcadbcpaaGreatDoor
section
theorem zGH {k s r c : Nat} : c ∈ rowL k s r ↔ c < k + s ∧ ldB k s r c = true := by unfold rowL; rw [List.mem_filter, List.mem_range]
theorem zG5 {g : List Nat} {j x c : Nat} : c ∈ colB g j x ↔ c < j ∧ (g.getD c 0).testBit x = true := by unfold colB; rw [List.mem_filter, List.mem_range]
theorem zEa {k s : Nat} {g : List Nat} {x c : Nat} : c ∈ rowH k s g x ↔ (c < k + s ∧ (g.getD c 0).testBit x = true) ∨ c = k + s + x := by
  unfold rowH
  rw [List.mem_append, zG5, List.mem_singleton]
theorem zNa {k s h i : Nat} {g : List Nat} (hi : i < s + h) : k + i ∈ (rowsP k s h g).getD i [] := by
  by_cases h1 : i < s
  · rw [zD7 h1, zGa h1]; simp
  · obtain ⟨x, rfl⟩ : ∃ x, i = s + x := ⟨i - s, by omega⟩
    rw [zEc (by omega), zEa]
    right; omega
theorem zJp {k s h i j : Nat} {g : List Nat} (hi : i < s + h) (hj : j < i) : k + i ∉ (rowsP k s h g).getD j [] := by
  by_cases h1 : j < s
  · rw [zD7 h1, zGH]
    rintro ⟨h2, h3⟩
    rw [zJH (by omega)] at h3
    have := of_decide_eq_true h3
    omega
  · obtain ⟨x, rfl⟩ : ∃ x, j = s + x := ⟨j - s, by omega⟩
    rw [zEc (by omega), zEa]
    rintro (⟨h2, _⟩ | h2) <;> omega
theorem zLX {k s h i c : Nat} {g : List Nat} (hi : i < s + h) (hc : c ∈ (rowsP k s h g).getD i []) : c < k + s + h := by
  by_cases h1 : i < s
  · rw [zD7 h1, zGH] at hc
    omega
  · obtain ⟨x, rfl⟩ : ∃ x, i = s + x := ⟨i - s, by omega⟩
    rw [zEc (by omega), zEa] at hc
    omega
theorem zIr {k s h i : Nat} {g : List Nat} (hi : i < s + h) : ((rowsP k s h g).getD i []).Nodup := by
  by_cases h1 : i < s
  · rw [zD7 h1]
    exact List.Pairwise.filter _ List.nodup_range
  · obtain ⟨x, rfl⟩ : ∃ x, i = s + x := ⟨i - s, by omega⟩
    rw [zEc (by omega)]
    unfold rowH
    refine zDF _ _ (List.Pairwise.filter _ List.nodup_range) ?_
    rw [zG5]
    omega
theorem zIS {l : List Nat} {x : Nat} : (x : Int) ∈ l.map Int.ofNat ↔ x ∈ l := by
  rw [List.mem_map]
  constructor
  · rintro ⟨y, hy, e⟩
    have : y = x := by have e' : (y : Int) = (x : Int) := e; omega
    exact this ▸ hy
  · intro h; exact ⟨x, h, rfl⟩
theorem zFP {l : List Nat} (h : l.Nodup) : (l.map Int.ofNat).Nodup := by
  unfold List.Nodup at *
  exact List.Pairwise.map Int.ofNat (fun a b hab e => hab (by have e' : (a : Int) = (b : Int) := e; omega)) h
def packR (n : Nat) (r : List Nat) : List Nat := packW (r.map Int.ofNat) (kOf n)
theorem zBm (n : Nat) (r : List Nat) : Packs (packR n r) (kOf n) (inP (r.map Int.ofNat)) := Packs.map _ _
theorem zBZ {n : Nat} {r : List Nat} (hr : ∀ c ∈ r, c < n) (c : Nat) : bitW (packR n r) c = decide (c ∈ r) := by
  obtain ⟨h1, h2, h3⟩ := zBm n r
  rcases Nat.lt_or_ge c (64 * kOf n) with h | h
  · rw [h3 c h]
    exact decide_eq_decide.2 zIS
  · rw [zBl _ _ (by rw [h1]; exact h)]
    symm
    rw [decide_eq_false_iff_not]
    intro hc
    have := hr c hc
    unfold kOf at h
    omega
def packL (n : Nat) (R : List (List Nat)) : List (List Nat) := R.map (packR n)
theorem zIT (k s h : Nat) (g : List Nat) : rk (vecs (packL (k + s + h) (rowsP k s h g))) = s + h := by
  have hlen : (vecs (packL (k + s + h) (rowsP k s h g))).length = s + h := by rw [zF9]; simp [packL, zBp]
  have hbit : ∀ j c, j < s + h → (vecs (packL (k + s + h) (rowsP k s h g))).getD j vzero c = decide (c ∈ (rowsP k s h g).getD j []) := fun j c hj => by
    rw [zKg]
    have hjl : j < (rowsP k s h g).length := by rw [zBp]; exact hj
    have e : (packL (k + s + h) (rowsP k s h g)).getD j [] = packR (k + s + h) ((rowsP k s h g).getD j []) := by
      unfold packL
      rw [List.getD_eq_getElem?_getD, List.getElem?_map, List.getD_eq_getElem?_getD, List.getElem?_eq_getElem hjl]
      rfl
    rw [e]
    exact zBZ (fun c hc => zLX hj hc) c
  rw [zLT (fun i => k + i) (fun i hi => ?_) (fun i j hi hj => ?_), hlen]
  · rw [hlen] at hi
    rw [hbit i _ hi]
    exact decide_eq_true (zNa hi)
  · rw [hlen] at hi
    rw [hbit j _ (by omega)]
    exact decide_eq_false (zJp hi hj)
end

section
def proj (n : Nat) (v : Vec) : Vec := fun c => if c < n then v c else false
def unitV (c : Nat) : Vec := fun d => decide (d = c)
theorem zEf (n : Nat) (u v : Vec) : proj n (vadd u v) = vadd (proj n u) (proj n v) := by
  funext c; simp only [proj, vadd]; by_cases h : c < n
  · rw [if_pos h, if_pos h, if_pos h]
  · rw [if_neg h, if_neg h, if_neg h]; rfl
theorem zFg (n : Nat) : proj n vzero = vzero := by funext c; unfold proj vzero; split <;> rfl
theorem zCF {n c : Nat} {v : Vec} (h : c < n) : proj n v c = v c := if_pos h
theorem zJv {n : Nat} {u v : Vec} (h : proj n u = proj n v) {c : Nat} (hc : c < n) : u c = v c := by
  have := congrFun h c
  rwa [zCF hc, zCF hc] at this
theorem zEh {K : List Vec} {v : Vec} (n : Nat) (h : Sp K v) : Sp (K.map (proj n)) (proj n v) :=
  h (fun x => Sp (K.map (proj n)) (proj n x)) ⟨by rw [zFg]; exact Sp.zero _, fun x y hx hy => by rw [zEf]; exact hx.add hy⟩ fun r hr => .mem (List.mem_map.2 ⟨r, hr, rfl⟩)
theorem zGw {K : List Vec} {x : Vec} {n : Nat} (h : Sp (K.map (proj n)) x) : ∃ v, Sp K v ∧ proj n v = x :=
  h (fun x => ∃ v, Sp K v ∧ proj n v = x) ⟨⟨vzero, Sp.zero _, zFg n⟩, fun x y ⟨u, hu, eu⟩ ⟨v, hv, ev⟩ => ⟨vadd u v, hu.add hv, by rw [zEf, eu, ev]⟩⟩ fun r hr => by
    obtain ⟨s, hs, rfl⟩ := List.mem_map.1 hr
    exact ⟨s, .mem hs, rfl⟩
def Cons (n : Nat) (K : List Vec) : Prop := ∀ v, Sp K v → (∀ c, c < n → v c = false) → v = vzero
theorem Cons.congr {n : Nat} {K M : List Vec} (h : Cons n K) (e : SpEq K M) : Cons n M := fun v hv hz => h v ((e v).2 hv) hz
open Classical in
noncomputable def kindV (n : Nat) (K : List Vec) (l : Vec) : Nat := if Sp (K.map (proj n)) (proj n l) then (if Sp K l then 2 else 3) else 1
theorem zGf {n : Nat} {K M : List Vec} (e : SpEq K M) (l : Vec) : kindV n K l = kindV n M l := by
  have h1 : Sp (K.map (proj n)) (proj n l) ↔ Sp (M.map (proj n)) (proj n l) := by
    constructor <;> intro h
    · obtain ⟨v, hv, ev⟩ := zGw h; rw [← ev]; exact zEh n ((e v).1 hv)
    · obtain ⟨v, hv, ev⟩ := zGw h; rw [← ev]; exact zEh n ((e v).2 hv)
  unfold kindV
  by_cases a : Sp (M.map (proj n)) (proj n l)
  · have a' := h1.2 a
    by_cases b : Sp M l
    · have b' := (e l).2 b
      rw [if_pos a', if_pos b', if_pos a, if_pos b]
    · have b' : ¬ Sp K l := fun h => b ((e l).1 h)
      rw [if_pos a', if_neg b', if_pos a, if_neg b]
  · have a' : ¬ Sp (K.map (proj n)) (proj n l) := fun h => a (h1.1 h)
    rw [if_neg a', if_neg a]
def ValV (n : Nat) (K : List Vec) (c : Nat) (v : Vec) : Prop := Sp K v ∧ proj n v = unitV c
theorem ValV.congr {n c : Nat} {K M : List Vec} {v : Vec} (h : ValV n K c v) (e : SpEq K M) : ValV n M c v := ⟨(e v).1 h.1, h.2⟩
end

section
def bitsTo (sym : List Nat) (k : Nat) : List Bool := (List.range k).map fun i => (sym.getD (i / 8) 0).testBit (i % 8)
def bitsOf (sym : List Nat) : List Bool := bitsTo sym (8 * sym.length)
def longB (row sym : List Nat) (n : Nat) : List Bool := truthsB row n ++ bitsOf sym
def longV (row sym : List Nat) (n : Nat) : Vec := bitB (longB row sym n)
def byteAt (v : Nat → Bool) (q : Nat) : Nat := (List.range 8).foldl (fun acc b => acc + (if v (q + b) then 2 ^ b else 0)) 0
def symV (n size : Nat) (v : Vec) : List Nat := (List.range size).map fun i => byteAt v (n + 8 * i)
theorem zEu (sym : List Nat) (k : Nat) : (bitsTo sym k).length = k := by simp [bitsTo]
theorem zFD (row sym : List Nat) (n : Nat) : (longB row sym n).length = n + 8 * sym.length := by simp [longB, zAL, bitsOf, zEu]
theorem zAP {row sym : List Nat} {n c : Nat} (h : c < n) : longV row sym n c = bitW row c := by
  unfold longV bitB longB
  rw [List.getD_eq_getElem?_getD, List.getElem?_append_left (by rw [zAL]; exact h)]
  simp [truthsB, h]
theorem zBa {row sym : List Nat} {n i b : Nat} (hi : i < sym.length) (hb : b < 8) : longV row sym n (n + 8 * i + b) = (sym.getD i 0).testBit b := by
  unfold longV bitB longB bitsOf bitsTo
  rw [List.getD_eq_getElem?_getD, List.getElem?_append_right (by rw [zAL]; omega), zAL, show n + 8 * i + b - n = 8 * i + b by omega]
  rw [List.getElem?_map, List.getElem?_range (by omega)]
  simp only [Option.map_some, Option.getD_some]
  rw [show (8 * i + b) / 8 = i by omega, show (8 * i + b) % 8 = b by omega]
theorem zB0 {row sym : List Nat} {n c : Nat} (h : n + 8 * sym.length ≤ c) : longV row sym n c = false := zKr (by rw [zFD]; exact h)
theorem zHq {row sym : List Nat} {n : Nat} (h : ∀ c, n ≤ c → bitW row c = false) : proj n (longV row sym n) = bitW row := by
  funext c
  by_cases hc : c < n
  · rw [zCF hc, zAP hc]
  · rw [h c (by omega)]; unfold proj; rw [if_neg hc]
theorem zFY {v : Nat → Bool} {q x : Nat} (hx : x < 256) (h : ∀ b, b < 8 → v (q + b) = x.testBit b) : byteAt v q = x := by
  have e : byteAt v q = (List.range 8).foldl (fun acc b => acc + (if x.testBit b then 2 ^ b else 0)) 0 := by
    unfold byteAt
    simp only [List.range_succ, List.range_zero, List.nil_append, List.foldl_append, List.foldl_cons, List.foldl_nil]
    simp only [h 0 (by omega), h 1 (by omega), h 2 (by omega), h 3 (by omega), h 4 (by omega), h 5 (by omega), h 6 (by omega), h 7 (by omega)]
  rw [e]
  have all : ∀ y : Fin 256, (List.range 8).foldl (fun acc b => acc + (if y.val.testBit b then 2 ^ b else 0)) 0 = y.val := by decide +kernel
  exact all ⟨x, hx⟩
theorem zJX {row sym : List Nat} {n : Nat} (h : Octets sym) : symV n sym.length (longV row sym n) = sym := by
  apply zAT (by simp [symV])
  intro i hi
  have hi' : i < sym.length := by simpa [symV] using hi
  rw [show (symV n sym.length (longV row sym n)).getD i 0 = byteAt (longV row sym n) (n + 8 * i) by simp [symV, List.getD_eq_getElem?_getD, hi']]
  exact zFY (h.getD i) fun b hb => zBa hi' hb
theorem zIW {r1 r2 s1 s2 : List Nat} {n : Nat} (hr : r1.length = r2.length) (hs : s1.length = s2.length) : vadd (longV r1 s1 n) (longV r2 s2 n) = longV (xorW r1 r2) (xorW s1 s2) n := by
  funext c
  by_cases h1 : c < n
  · rw [zAP h1, zGJ hr]
    simp only [vadd, zAP h1]
  · by_cases h2 : c < n + 8 * s1.length
    · obtain ⟨i, b, hi, hb, e⟩ : ∃ i b, i < s1.length ∧ b < 8 ∧ c = n + 8 * i + b := ⟨(c - n) / 8, (c - n) % 8, by omega, by omega, by omega⟩
      subst e
      rw [zBa (by rw [zAm hs]; exact hi) hb, zAu hs, Nat.testBit_xor]
      simp only [vadd, zBa hi hb, zBa (show i < s2.length by omega) hb]
    · rw [zB0 (by rw [zAm hs]; omega)]
      simp only [vadd]
      rw [zB0 (by omega), zB0 (by omega)]; rfl
end

section
abbrev Eqn := List Nat × List Nat
def EqOk (n size : Nat) (q : Eqn) : Prop := q.1.length = kOf n ∧ Word q.1 ∧ (∀ c, n ≤ c → bitW q.1 c = false) ∧ q.2.length = size ∧ Octets q.2
def uF (f : Nat → Option Eqn) (n : Nat) : Nat → Vec := fun c => match f c with | none => vzero | some q => longV q.1 q.2 n
theorem zEz {f : Nat → Option Eqn} {n c : Nat} (h : f c = none) : uF f n c = vzero := by unfold uF; rw [h]
theorem zGt {f : Nat → Option Eqn} {n c : Nat} {q : Eqn} (h : f c = some q) : uF f n c = longV q.1 q.2 n := by unfold uF; rw [h]
def cntF (f : Nat → Option Eqn) (n : Nat) : Nat := ((List.range n).filter fun c => (f c).isSome).length
theorem zIv (f : Nat → Option Eqn) (n : Nat) : cntF f n ≤ n := by unfold cntF; exact Nat.le_trans (List.length_filter_le _ _) (by simp)
theorem zFy (n : Nat) : cntF (fun _ => none) n = 0 := by unfold cntF; simp
theorem zBr (f : Nat → Option Eqn) (n : Nat) : cntF f (n + 1) = cntF f n + (if (f n).isSome then 1 else 0) := by
  unfold cntF
  rw [List.range_succ, List.filter_append, List.length_append]
  congr 1
  simp only [List.filter_cons, List.filter_nil]
  split <;> rfl
theorem zER {f : Nat → Option Eqn} : ∀ {n}, cntF f n = n → ∀ c, c < n → (f c).isSome = true
  | 0, _, c, hc => by omega
  | n + 1, h, c, hc => by
    rw [zBr] at h
    have := zIv f n
    cases hs : (f n).isSome with
    | false => rw [hs] at h; simp at h; omega
    | true =>
      rw [hs] at h
      simp at h
      by_cases e : c = n
      · rw [e]; exact hs
      · exact zER h c (by omega)
theorem zDW {f g : Nat → Option Eqn} : ∀ {n}, (∀ c, c < n → (f c).isSome = (g c).isSome) → cntF f n = cntF g n
  | 0, _ => rfl
  | n + 1, h => by rw [zBr, zBr, h n (by omega), zDW fun c hc => h c (by omega)]
def putF (f : Nat → Option Eqn) (c : Nat) (q : Eqn) : Nat → Option Eqn := fun d => if d = c then some q else f d
theorem zEt {f : Nat → Option Eqn} {c : Nat} {q : Eqn} (hz : f c = none) : ∀ {n}, c < n → cntF (putF f c q) n = cntF f n + 1
  | 0, h => by omega
  | n + 1, h => by
    rw [zBr, zBr]
    by_cases e : n = c
    · subst e
      rw [zDW (g := f) (fun d hd => by unfold putF; rw [if_neg (by omega)]), hz, show putF f n q n = some q from if_pos rfl]
      rfl
    · rw [zEt hz (by omega), show putF f c q n = f n from if_neg e]
      omega
theorem zNI {f : Nat → Option Eqn} {n c : Nat} {q : Eqn} : uF (putF f c q) n = upd (uF f n) c (longV q.1 q.2 n) := by
  funext d
  unfold uF putF upd
  by_cases e : d = c
  · rw [if_pos e, if_pos e]
  · rw [if_neg e, if_neg e]
theorem zDK {U : Nat → Vec} {n : Nat} (h : Stair U n) : Cons n (stL U n) := fun v hv hz => by
  rcases zDY (zG9 h) v ((zFF U n v).2 hv) with e | ⟨r, hr, c, h1, h2⟩
  · exact e
  · obtain ⟨d, hd, hne, rfl⟩ := mem_stNZ.1 hr
    have h3 := (h d hd).resolve_left hne
    have h4 : c = d := h1.unique h3
    subst h4
    have h5 := hz c hd
    rw [h2.1] at h5; cases h5
theorem zIf {U : Nat → Vec} {n c : Nat} {l x : Vec} (h : Stair U n) (hx : Sp (stL U n) (vadd x l)) (hc : c < n) (hz : U c = vzero) (hl : Lead x c) : ¬ Sp ((stL U n).map (proj n)) (proj n l) := fun hs => by
  obtain ⟨v, hv, ev⟩ := zGw hs
  have h1 : Sp (stL U n) (vadd (vadd x l) v) := hx.add hv
  refine zI6 h hz (x := vadd (vadd x l) v) ⟨?_, fun d hd => ?_⟩ h1
  · have := zJv ev hc
    simp only [vadd, this, hl.1]
    cases l c <;> rfl
  · have := zJv ev (Nat.lt_trans hd hc)
    simp only [vadd, this, hl.2 d hd]
    cases l d <;> rfl
theorem zFG {U : Nat → Vec} {n c : Nat} {l x : Vec} (h : Stair U n) (hx : Sp (stL U n) (vadd x l)) (hc : c < n) (hz : U c = vzero) (hl : Lead x c) : kindV n (stL U n) l = 1 := if_neg (zIf h hx hc hz hl)
theorem zFW {K : List Vec} {n : Nat} {l : Vec} (h : Sp K l) : kindV n K l = 2 := by unfold kindV; rw [if_pos (zEh n h), if_pos h]
theorem zFe {n : Nat} {x : Vec} (h : ∀ c, c < n → x c = false) : proj n x = vzero := by
  funext c; unfold proj; split
  · exact h c ‹_›
  · rfl
theorem zGd {U : Nat → Vec} {n : Nat} {l x : Vec} (h : Stair U n) (hx : Sp (stL U n) (vadd x l)) (hz : ∀ c, c < n → x c = false) (hne : x ≠ vzero) : kindV n (stL U n) l = 3 := by
  have h1 : Sp ((stL U n).map (proj n)) (proj n l) := by
    have := zEh n hx
    rw [zEf, zFe hz, zAA, zA9] at this
    exact this
  have h2 : ¬ Sp (stL U n) l := fun hs => hne (zDK h x (hx.of_add hs) hz)
  unfold kindV
  rw [if_pos h1, if_neg h2]
theorem zHL {U : Nat → Vec} {n c : Nat} {l x : Vec} (hx : Sp (stL U n) (vadd x l)) (hc : c < n) (hz : U c = vzero) : SpEq (stL (upd U c x) n) (stL U n ++ [l]) :=
  (zKD hc hz).trans (.of
    (fun s hs => by
      rcases List.mem_append.1 hs with hs | hs
      · exact .mem (List.mem_append.2 (.inl hs))
      · rw [List.mem_singleton.1 hs]
        have h1 : Sp (stL U n ++ [l]) (vadd x l) := hx.sub fun r hr => List.mem_append.2 (.inl hr)
        exact h1.of_add (.mem (List.mem_append.2 (.inr (List.mem_singleton.2 rfl)))))
    (fun s hs => by
      rcases List.mem_append.1 hs with hs | hs
      · exact .mem (List.mem_append.2 (.inl hs))
      · rw [List.mem_singleton.1 hs]
        have h1 : Sp (stL U n ++ [x]) (vadd x l) := hx.sub fun r hr => List.mem_append.2 (.inl hr)
        rw [zAA] at h1
        exact h1.of_add (.mem (List.mem_append.2 (.inr (List.mem_singleton.2 rfl))))))
theorem zH5 {r s : List Nat} {n : Nat} (hr : bitW r = vzero) (hs : ∀ j, s.getD j 0 = 0) : longV r s n = vzero := by
  funext c
  by_cases h1 : c < n
  · rw [zAP h1, hr]
  · by_cases h2 : c < n + 8 * s.length
    · obtain ⟨i, b, hi, hb, rfl⟩ : ∃ i b, i < s.length ∧ b < 8 ∧ c = n + 8 * i + b := ⟨(c - n) / 8, (c - n) % 8, by omega, by omega, by omega⟩
      rw [zBa hi hb, hs i, Nat.zero_testBit]; rfl
    · exact zB0 (by omega)
theorem zKq {r s : List Nat} {n j : Nat} (ho : Octets s) (hs : s.getD j 0 ≠ 0) : longV r s n ≠ vzero := fun e => by
  have hj : j < s.length := by
    by_cases h : j < s.length
    · exact h
    · exact absurd (by simp [List.getD_eq_getElem?_getD, Nat.not_lt.1 h]) hs
  refine hs (Nat.eq_of_testBit_eq fun b => ?_)
  rw [Nat.zero_testBit]
  by_cases hb : b < 8
  · rw [← zBa (row := r) (n := n) hj hb, e]; rfl
  · have := ho.getD j
    exact Nat.testBit_lt_two_pow (Nat.lt_of_lt_of_le this (Nat.pow_le_pow_right (n := 2) (by decide) (show 8 ≤ b by omega)))
theorem zDD {r s : List Nat} {n c : Nat} (hc : c < n) (h : Lead (bitW r) c) : Lead (longV r s n) c := ⟨by rw [zAP hc]; exact h.1, fun d hd => by rw [zAP (by omega)]; exact h.2 d hd⟩
end

section
theorem zCb (v : Nat → Bool) (q : Nat) : byteAt v q < 256 := by
  unfold byteAt
  simp only [List.range_succ, List.range_zero, List.nil_append, List.foldl_append, List.foldl_cons, List.foldl_nil]
  split <;> split <;> split <;> split <;> split <;> split <;> split <;> split <;> omega
theorem zCk (v : Nat → Bool) (q : Nat) {b : Nat} (hb : b < 8) : (byteAt v q).testBit b = v (q + b) := by
  have h : ∀ x : Fin 256, byteAt (fun j => x.val.testBit j) 0 = x.val := by decide +kernel
  have e : byteAt v q = byteAt (fun j => v (q + j)) 0 := by unfold byteAt; simp
  have key : ∀ b0 b1 b2 b3 b4 b5 b6 b7 : Bool, ∀ t : Fin 8, (byteAt (fun j => [b0, b1, b2, b3, b4, b5, b6, b7].getD j false) 0).testBit t.val = [b0, b1, b2, b3, b4, b5, b6, b7].getD t.val false := by decide +kernel
  have e2 : byteAt (fun j => v (q + j)) 0 = byteAt (fun j => [v (q + 0), v (q + 1), v (q + 2), v (q + 3), v (q + 4), v (q + 5), v (q + 6), v (q + 7)].getD j false) 0 := by unfold byteAt; simp [List.range_succ]
  rw [e, e2, key _ _ _ _ _ _ _ _ ⟨b, hb⟩]
  match b, hb with
  | 0, _ => rfl
  | 1, _ => rfl
  | 2, _ => rfl
  | 3, _ => rfl
  | 4, _ => rfl
  | 5, _ => rfl
  | 6, _ => rfl
  | 7, _ => rfl
theorem zAC (n size : Nat) (v : Vec) : (symV n size v).length = size := by simp [symV]
theorem zCQ {n size i : Nat} (v : Vec) (h : i < size) : (symV n size v).getD i 0 = byteAt v (n + 8 * i) := by simp [symV, List.getD_eq_getElem?_getD, h]
theorem zFH (n size : Nat) (v : Vec) : Octets (symV n size v) := fun x hx => by
  obtain ⟨i, _, rfl⟩ := List.mem_map.1 hx
  exact zCb _ _
theorem zLk (n size : Nat) (u v : Vec) : symV n size (vadd u v) = xorW (symV n size u) (symV n size v) := by
  have hl : (symV n size u).length = (symV n size v).length := by rw [zAC, zAC]
  apply zAT (by rw [zAm hl, zAC, zAC])
  intro i hi
  rw [zAC] at hi
  rw [zAu hl, zCQ _ hi, zCQ _ hi, zCQ _ hi]
  apply Nat.eq_of_testBit_eq
  intro b
  by_cases hb : b < 8
  · rw [Nat.testBit_xor, zCk _ _ hb, zCk _ _ hb, zCk _ _ hb]; rfl
  · have big : ∀ x : Nat, x < 256 → x.testBit b = false := fun x hx => Nat.testBit_lt_two_pow (Nat.lt_of_lt_of_le hx (Nat.pow_le_pow_right (n := 2) (by decide) (show 8 ≤ b by omega)))
    rw [Nat.testBit_xor, big _ (zCb _ _), big _ (zCb _ _), big _ (zCb _ _)]; rfl
theorem zIV {n size c : Nat} {K : List Vec} {q : Eqn} {V : List (List Nat)} (hq : EqOk n size q) (hl : Lead (bitW q.1) c) (hc : c < n) (hK : Sp K (longV q.1 q.2 n)) (hV : V.getD c [] = q.2)
    (hv : ∀ d, c < d → d < n → ∃ x, ValV n K d x ∧ V.getD d [] = symV n size x) : ∀ m, c + 1 + m ≤ n → ∃ y, Sp K y ∧ (∀ d, d < n → y d = if d = c then true else if d < c + 1 + m then false else bitW q.1 d) ∧ sumS size (pickTo q.1 V (c + 1 + m)) = symV n size y
  | 0, _ => by
    refine ⟨longV q.1 q.2 n, hK, fun d hd => ?_, ?_⟩
    · rw [zAP hd]
      by_cases e : d = c
      · rw [if_pos e, e]; exact hl.1
      · rw [if_neg e]
        by_cases e2 : d < c + 1 + 0
        · rw [if_pos e2]; exact hl.2 d (by omega)
        · rw [if_neg e2]
    · have hz : ∀ k, k ≤ c → pickTo q.1 V k = [] := by
        intro k
        induction k with
        | zero => intro _; rfl
        | succ k ih => intro hk; rw [zCp (hl.2 k (by omega)), ih (by omega)]
      rw [Nat.add_zero, zC9 hl.1, hz c (Nat.le_refl _), hV, List.nil_append, zLq hq.2.2.2.1]
      have := zJX (row := q.1) (n := n) hq.2.2.2.2
      rw [hq.2.2.2.1] at this
      exact this.symm
  | m + 1, hm => by
    obtain ⟨y, h1, h2, h3⟩ := zIV hq hl hc hK hV hv m (by omega)
    cases hb : bitW q.1 (c + 1 + m) with
    | false =>
      refine ⟨y, h1, fun d hd => ?_, by rw [show c + 1 + (m + 1) = c + 1 + m + 1 by omega, zCp hb]; exact h3⟩
      rw [h2 d hd]
      by_cases e : d = c
      · rw [if_pos e, if_pos e]
      · rw [if_neg e, if_neg e]
        by_cases e2 : d < c + 1 + m
        · rw [if_pos e2, if_pos (by omega)]
        · rw [if_neg e2]
          by_cases e3 : d = c + 1 + m
          · rw [if_pos (by omega), e3, hb]
          · rw [if_neg (by omega)]
    | true =>
      obtain ⟨x, hx, hxV⟩ := hv (c + 1 + m) (by omega) (by omega)
      refine ⟨vadd y x, h1.add hx.1, fun d hd => ?_, ?_⟩
      · have hxd : x d = unitV (c + 1 + m) d := by
          have := congrFun hx.2 d
          rwa [zCF hd] at this
        simp only [vadd, h2 d hd, hxd, unitV]
        by_cases e : d = c
        · rw [if_pos e, if_pos e, decide_eq_false (by omega)]; rfl
        · rw [if_neg e, if_neg e]
          by_cases e2 : d < c + 1 + m
          · rw [if_pos e2, if_pos (by omega), decide_eq_false (by omega)]; rfl
          · rw [if_neg e2]
            by_cases e3 : d = c + 1 + m
            · rw [if_pos (by omega), e3, hb]; simp
            · rw [if_neg (by omega), decide_eq_false e3]; simp
      · rw [show c + 1 + (m + 1) = c + 1 + m + 1 by omega, zC9 hb, zFf (by rw [hxV, zAC]), h3, hxV, zLk]
theorem zKP {n size c : Nat} {K : List Vec} {q : Eqn} {V : List (List Nat)} (hq : EqOk n size q) (hl : Lead (bitW q.1) c) (hc : c < n) (hK : Sp K (longV q.1 q.2 n)) (hV : V.getD c [] = q.2)
    (hv : ∀ d, c < d → d < n → ∃ x, ValV n K d x ∧ V.getD d [] = symV n size x) : ∃ x, ValV n K c x ∧ sumS size (pickTo q.1 V n) = symV n size x := by
  obtain ⟨y, h1, h2, h3⟩ := zIV hq hl hc hK hV hv (n - (c + 1)) (by omega)
  rw [show c + 1 + (n - (c + 1)) = n by omega] at h3
  refine ⟨y, ⟨h1, ?_⟩, h3⟩
  funext d
  unfold proj unitV
  by_cases hd : d < n
  · rw [if_pos hd, h2 d hd]
    by_cases e : d = c
    · rw [if_pos e, decide_eq_true e]
    · rw [if_neg e, if_pos (by omega), decide_eq_false e]
  · rw [if_neg hd, decide_eq_false (by omega)]
end

section
theorem zLS {l p st a : Nat} : ∀ n d, d ≤ (trW l p st a n).length → ∃ j, j ≤ n ∧ (trW l p st a j).length = d
  | 0, d, h => ⟨0, Nat.le_refl _, by rw [zEB] at h ⊢; simp at h; simp [h]⟩
  | n + 1, d, h => by
    by_cases hd : d ≤ (trW l p st a n).length
    · obtain ⟨j, h1, h2⟩ := zLS n d hd
      exact ⟨j, by omega, h2⟩
    · refine ⟨n + 1, Nat.le_refl _, ?_⟩
      have : (trW l p st a (n + 1)).length ≤ (trW l p st a n).length + 1 := by
        rw [zCJ, List.length_append]
        split <;> simp
      omega
theorem tr_ex {l p st a d : Nat} (hp : IsP p) (h1 : 1 ≤ st) (h2 : st < p) (hl : l ≤ p) (hd : d ≤ l) : ∃ W, IsTr l p st a d W := by
  obtain ⟨j, h3, h4⟩ := zLS (l := l) (p := p) (st := st) (a := a) p d (by rw [zEg hp h1 h2 hl]; exact hd)
  exact ⟨_, h4, j, h3, rfl⟩
open Classical in
noncomputable def walkE (l p seed e : Nat) : List Nat := if h : ∃ W, IsTr l p (trS p (mixN e seed)) (trA p (mixN e seed)) (trD l (mixN e seed)) W then Classical.choose h else []
theorem zEk {l p seed e : Nat} {W : List Nat} (h : IsTr l p (trS p (mixN e seed)) (trA p (mixN e seed)) (trD l (mixN e seed)) W) : walkE l p seed e = W := by
  have hx : ∃ W, IsTr l p (trS p (mixN e seed)) (trA p (mixN e seed)) (trD l (mixN e seed)) W := ⟨W, h⟩
  unfold walkE
  rw [dif_pos hx]
  exact (Classical.choose_spec hx).unique h
theorem zGB {k s h l p : Nat} (H : OfP k s h l p) (hk1 : 1 ≤ k) (hk2 : k ≤ 128) (seed e : Nat) : IsTr l p (trS p (mixN e seed)) (trA p (mixN e seed)) (trD l (mixN e seed)) (walkE l p seed e) := by
  obtain ⟨b1, b2, b3, b4, b5, b6, b7⟩ := H.bounds hk1 hk2
  have hp2 : 2 ≤ p := H.2.2.2.two
  have hl1 : 1 ≤ l := by have := H.2.2.1; omega
  obtain ⟨W, hW⟩ := tr_ex (l := l) (p := p) (st := trS p (mixN e seed)) (a := trA p (mixN e seed)) (d := trD l (mixN e seed)) H.2.2.2.1 (zEW hp2).1 (zEW hp2).2 b6 (zIN hl1).2
  rw [zEk hW]
  exact hW
noncomputable def rowE (l p seed e : Nat) : List Nat := risN l (walkE l p seed e)
theorem zCr {l p seed e : Nat} : ∀ c ∈ rowE l p seed e, c < l := fun _ hc => (zK7.1 hc).1
theorem zHH (l p seed e : Nat) : (rowE l p seed e).Nodup := zDV _ _
theorem zLE (l p seed e : Nat) : (rowE l p seed e).length ≤ l := by
  unfold rowE risN
  exact Nat.le_trans (List.length_filter_le _ _) (by simp)
theorem zKk {k s h l p : Nat} (H : OfP k s h l p) (hk1 : 1 ≤ k) (hk2 : k ≤ 128) (seed e : Nat) : rowVec (rowE l p seed e) = rowVec (walkE l p seed e) := by
  funext c
  unfold rowVec rowE
  rw [decide_eq_decide, zK7]
  exact ⟨fun h => h.2, fun h => ⟨(zGB H hk1 hk2 seed e).lt h, h⟩⟩
noncomputable def graysE (k s h : Nat) : List Nat := Classical.choose (gr_ex ((h + 1) / 2) (k + s))
theorem zFh (k s h : Nat) : IsGr ((h + 1) / 2) (k + s) (graysE k s h) := Classical.choose_spec (gr_ex ((h + 1) / 2) (k + s))
theorem zIu {k s h : Nat} {g : List Nat} (hg : IsGr ((h + 1) / 2) (k + s) g) : g = graysE k s h := hg.unique (zFh k s h)
noncomputable def rowsF0 (k s h : Nat) : List (List Nat) := rowsP k s h (graysE k s h)
noncomputable def rowsA (k s h l p seed : Nat) (es : List Nat) : List (List Nat) := rowsF0 k s h ++ es.map (rowE l p seed)
theorem zAj (k s h : Nat) : (rowsF0 k s h).length = s + h := zBp _ _ _ _
theorem zHo (k s h l p seed : Nat) (es : List Nat) (e : Nat) : rowsA k s h l p seed (es ++ [e]) = rowsA k s h l p seed es ++ [rowE l p seed e] := by
  unfold rowsA
  rw [List.map_append, List.append_assoc]
  rfl
theorem zIK (k s h l p seed : Nat) : rowsA k s h l p seed [] = rowsF0 k s h := by simp [rowsA]
theorem zBe {k s h i : Nat} (hi : i < (rowsF0 k s h).length) : ∀ r, r = (rowsF0 k s h).getD i [] → (∀ c ∈ r, c < k + s + h) ∧ r.Nodup := fun r e => by
  rw [zAj] at hi
  subst e
  exact ⟨fun c hc => zLX hi hc, zIr hi⟩
theorem zDn {k s h : Nat} : ∀ r ∈ rowsF0 k s h, (∀ c ∈ r, c < k + s + h) ∧ r.Nodup := fun r hr => by
  obtain ⟨i, hi, rfl⟩ := List.getElem_of_mem hr
  exact zBe hi _ (by simp [List.getD_eq_getElem?_getD, hi])
theorem zDU {n : Nat} {r : List Nat} (hr : ∀ c ∈ r, c < n) : bitW (packR n r) = rowVec r := funext fun c => zBZ hr c
theorem zHW {n : Nat} {R : List (List Nat)} (h : ∀ r ∈ R, ∀ c ∈ r, c < n) : vecs (packL n R) = R.map rowVec := by
  unfold vecs packL
  rw [List.map_map]
  exact List.map_congr_left fun r hr => zDU (h r hr)
theorem zFk (n : Nat) (R : List (List Nat)) : (packL n R).length = R.length := by simp [packL]
theorem zHB (n : Nat) (R : List (List Nat)) {i : Nat} (hi : i < R.length) : (packL n R).getD i [] = packR n (R.getD i []) := by
  unfold packL
  simp [List.getD_eq_getElem?_getD, hi]
noncomputable def rankA (k s h l p seed : Nat) (es : List Nat) : Nat := rk ((rowsA k s h l p seed es).map rowVec)
theorem zHX (A : List Vec) (v : Vec) : rk (A ++ [v]) ≤ rk A + 1 := by
  by_cases h : Sp A v
  · rw [rk_in h]; omega
  · rw [zJx h]; omega
theorem zCz (A : List Vec) : ∀ B : List Vec, rk (A ++ B) ≤ rk A + B.length := by
  intro B
  induction B generalizing A with
  | nil => simp
  | cons v B ih =>
    have := ih (A ++ [v])
    have h2 := zHX A v
    rw [List.append_assoc, List.singleton_append] at this
    rw [List.length_cons]
    omega
theorem zNS {A B : List Vec} (h : rk (A ++ B) = (A ++ B).length) : rk A = A.length := by
  have h1 := zCz A B
  have h2 := zA1 A
  rw [List.length_append] at h
  omega
theorem zI1 (k s h : Nat) : rk ((rowsF0 k s h).map rowVec) = s + h := by
  have : rk (vecs (packL (k + s + h) (rowsF0 k s h))) = s + h := zIT k s h (graysE k s h)
  rw [zHW fun r hr => (zDn r hr).1] at this
  exact this
def IsSeed (k s h l p seed : Nat) : Prop := seed < 65536 ∧ rankA k s h l p seed (List.range k) = l ∧ ∀ t, t < seed → rankA k s h l p t (List.range k) ≠ l
theorem zIt {k s h l p : Nat} (H : OfP k s h l p) (hk1 : 1 ≤ k) (hk2 : k ≤ 128) : ∃ seed, IsSeed k s h l p seed := by
  obtain ⟨seed, h1, h2⟩ := zMS hk1 hk2 H
  have h3 : rankA k s h l p seed (List.range k) = l := by
    have := h2 (graysE k s h) (zFh k s h) (fun e => walkE l p seed e) (fun e _ => zGB H hk1 hk2 seed e)
    refine Eq.trans (congrArg rk ?_) this
    unfold rowsA rowsF0
    rw [List.map_append, List.map_append, List.map_map, List.map_map]
    congr 1
    exact List.map_congr_left fun e _ => zKk H hk1 hk2 seed e
  obtain ⟨m, g1, g2, g3⟩ := zFE (fun t => rankA k s h l p t (List.range k) = l) seed h3
  exact ⟨m, Nat.lt_of_le_of_lt g3 h1, g1, g2⟩
def eqL (l : Nat) (r y : List Nat) : Vec := longV (packR l r) y l
theorem zCc {l : Nat} {r y : List Nat} (h : ∀ c ∈ r, c < l) : proj l (eqL l r y) = rowVec r := by
  unfold eqL
  rw [zHq, zDU h]
  intro c hc
  rw [zBZ h, decide_eq_false_iff_not]
  intro hm
  have := h c hm
  omega
theorem zHD (l : Nat) (r : List Nat) : Word (packR l r) := (zBm l r).2.1
theorem zI7 (l : Nat) (r : List Nat) : (packR l r).length = kOf l := (zBm l r).1
theorem zL4 {l size : Nat} {r y : List Nat} (h : ∀ c ∈ r, c < l) (hy : y.length = size) (ho : Octets y) : EqOk l size (packR l r, y) :=
  ⟨zI7 l r, zHD l r, fun c hc => by
    rw [zBZ h, decide_eq_false_iff_not]
    intro hm
    have := h c hm
    omega, hy, ho⟩
noncomputable def sysF (k s h l size : Nat) : List Vec := (rowsF0 k s h).map fun r => eqL l r (List.replicate size 0)
noncomputable def sysE (k s h l p seed size : Nat) (src : Nat → List Nat) (j : Nat) : List Vec := sysF k s h l size ++ (List.range j).map fun e => eqL l (rowE l p seed e) (src e)
theorem zC2 (k s h l p seed size : Nat) (src : Nat → List Nat) : sysE k s h l p seed size src 0 = sysF k s h l size := by simp [sysE]
theorem zFz (k s h l p seed size : Nat) (src : Nat → List Nat) (j : Nat) : sysE k s h l p seed size src (j + 1) = sysE k s h l p seed size src j ++ [eqL l (rowE l p seed j) (src j)] := by
  unfold sysE
  rw [List.range_succ, List.map_append, List.append_assoc]
  rfl
theorem zJP {k s h l size : Nat} (hl : l = k + s + h) : (sysF k s h l size).map (proj l) = (rowsF0 k s h).map rowVec := by
  unfold sysF
  rw [List.map_map]
  exact List.map_congr_left fun r hr => zCc (by rw [hl]; exact (zDn r hr).1)
theorem zIP {k s h l p seed size : Nat} {src : Nat → List Nat} (hl : l = k + s + h) (j : Nat) : (sysE k s h l p seed size src j).map (proj l) = (rowsA k s h l p seed (List.range j)).map rowVec := by
  unfold sysE rowsA
  rw [List.map_append, List.map_append, zJP hl]
  congr 1
  rw [List.map_map, List.map_map]
  exact List.map_congr_left fun e _ => zCc zCr
theorem zFn {k s h l p seed size j : Nat} {src : Nat → List Nat} {y : List Nat} (hl : l = k + s + h) (hr : rankA k s h l p seed (List.range j) = s + h + j) :
    (kindV l (sysE k s h l p seed size src j) (eqL l (rowE l p seed j) y) = 1 → rankA k s h l p seed (List.range (j + 1)) = s + h + (j + 1)) ∧
    (kindV l (sysE k s h l p seed size src j) (eqL l (rowE l p seed j) y) ≠ 1 → ∀ m, j < m → rankA k s h l p seed (List.range m) ≠ s + h + m) := by
  have e1 : rankA k s h l p seed (List.range (j + 1)) = rk ((rowsA k s h l p seed (List.range j)).map rowVec ++ [rowVec (rowE l p seed j)]) := by
    unfold rankA
    rw [List.range_succ, zHo, List.map_append]
    rfl
  unfold kindV
  rw [zIP hl, zCc zCr]
  constructor
  · intro hk
    have hn : ¬ Sp ((rowsA k s h l p seed (List.range j)).map rowVec) (rowVec (rowE l p seed j)) := fun hs => by
      rw [if_pos hs] at hk
      split at hk <;> omega
    rw [e1, zJx hn]
    have : rk ((rowsA k s h l p seed (List.range j)).map rowVec) = s + h + j := hr
    omega
  · intro hk m hm hf
    have hs : Sp ((rowsA k s h l p seed (List.range j)).map rowVec) (rowVec (rowE l p seed j)) := Classical.byContradiction fun hs => hk (if_neg hs)
    have e2 : rankA k s h l p seed (List.range (j + 1)) = s + h + j := by
      rw [e1, rk_in hs]
      exact hr
    obtain ⟨d, rfl⟩ : ∃ d, m = j + 1 + d := ⟨m - (j + 1), by omega⟩
    have e3 : rowsA k s h l p seed (List.range (j + 1 + d)) = rowsA k s h l p seed (List.range (j + 1)) ++ ((List.range d).map (fun t => j + 1 + t)).map (rowE l p seed) := by
      unfold rowsA
      rw [List.range_add, List.map_append, List.append_assoc]
    have e4 : rankA k s h l p seed (List.range (j + 1 + d)) ≤ rankA k s h l p seed (List.range (j + 1)) + d := by
      unfold rankA
      rw [e3, List.map_append]
      refine Nat.le_trans (zCz _ _) ?_
      simp
    omega
theorem zL8 (k s h l p seed : Nat) : rankA k s h l p seed (List.range 0) = s + h + 0 := by
  unfold rankA
  rw [show List.range 0 = [] from rfl, zIK, zI1]
  rfl
theorem zNW {k s h l size i : Nat} (hl : l = k + s + h) (hi : i < s + h) (y : List Nat) : kindV l (((rowsF0 k s h).take i).map fun r => eqL l r (List.replicate size 0)) (eqL l ((rowsF0 k s h).getD i []) y) = 1 := by
  have hlen := zAj k s h
  have hin : i < (rowsF0 k s h).length := by omega
  have hp : (((rowsF0 k s h).take i).map fun r => eqL l r (List.replicate size 0)).map (proj l) = ((rowsF0 k s h).take i).map rowVec := by
    rw [List.map_map]
    exact List.map_congr_left fun r hr => zCc (by rw [hl]; exact (zDn r (List.mem_of_mem_take hr)).1)
  have hg := zBe hin _ rfl
  unfold kindV
  rw [hp, zCc (by rw [hl]; exact hg.1), if_neg]
  intro hs
  have h1 := zI1 k s h
  have e : (rowsF0 k s h).map rowVec = (((rowsF0 k s h).take i).map rowVec ++ [rowVec ((rowsF0 k s h).getD i [])]) ++ ((rowsF0 k s h).drop (i + 1)).map rowVec := by
    rw [List.append_assoc, List.singleton_append, ← List.map_cons, ← List.map_append]
    congr 1
    have : (rowsF0 k s h).getD i [] = (rowsF0 k s h)[i] := by simp [List.getD_eq_getElem?_getD, hin]
    rw [this, ← List.drop_eq_getElem_cons hin, List.take_append_drop]
  rw [e] at h1
  have h2 := zNS (h1.trans (by rw [← e, List.length_map, hlen]))
  rw [rk_in hs, List.length_append, List.length_singleton] at h2
  have := zA1 (((rowsF0 k s h).take i).map rowVec)
  omega
theorem zHE {k s h l size i : Nat} (hi : i < s + h) : (((rowsF0 k s h).take (i + 1)).map fun r => eqL l r (List.replicate size 0)) = (((rowsF0 k s h).take i).map fun r => eqL l r (List.replicate size 0)) ++ [eqL l ((rowsF0 k s h).getD i []) (List.replicate size 0)] := by
  have hlen := zAj k s h
  have hin : i < (rowsF0 k s h).length := by omega
  rw [List.take_succ_eq_append_getElem hin, List.map_append]
  simp [List.getD_eq_getElem?_getD, hin]
theorem zI2 {k s h l size : Nat} : (((rowsF0 k s h).take (s + h)).map fun r => eqL l r (List.replicate size 0)) = sysF k s h l size := by
  unfold sysF
  rw [List.take_of_length_le (by rw [zAj]; omega)]
def Tells (l size : Nat) (K : List Vec) (V : List (List Nat)) : Prop := V.length = l ∧ ∀ c, c < l → ∃ x, ValV l K c x ∧ V.getD c [] = symV l size x
theorem Tells.row {l size : Nat} {K : List Vec} {V : List (List Nat)} (h : Tells l size K V) : ∀ r ∈ V, r.length = size ∧ Octets r := fun r hr => by
  obtain ⟨i, hi, rfl⟩ := List.getElem_of_mem hr
  obtain ⟨x, -, e⟩ := h.2 i (by rw [← h.1]; exact hi)
  rw [List.getD_eq_getElem?_getD, List.getElem?_eq_getElem hi, Option.getD_some] at e
  rw [e]
  exact ⟨zAC _ _ _, zFH _ _ _⟩
theorem zC3 (size : Nat) : Octets (List.replicate size 0) := Octets.replicate size
end

section
noncomputable def symE (l p sd size : Nat) (V : List (List Nat)) (e : Nat) : List Nat := sumS size ((rowE l p sd e).map fun c => V.getD c [])
theorem zFL (l p sd size : Nat) (V : List (List Nat)) (e : Nat) : (symE l p sd size V e).length = size := zAr _ _
end

section
open Go.RowKit Go.Extern.Stop Go.Stop Go.Extern
theorem zLm : (Tryz.prog.info? 217).map (fun i => (i.zero, i.size, i.bytes)) = some (some (.slice none 0 0), 1, 24) := by kernel_rfl
end

section
open Go.ChangeShapes Go.WideShapes Go.ChangeAt Go.RowKit Go.Deep
def CubeAt {α : Type} (f : α → Value) (w : World) (v : Value) (L : List (List (List α))) : Prop :=
  ∃ vs : List Value, ListAt id w v vs ∧ vs.length = L.length ∧ ∀ i, MatAt f w (vs.getD i nilS) (L.getD i [])
section
variable {α : Type} {f : α → Value} {w w' : World} {v : Value} {L : List (List (List α))}
theorem CubeAt.opens (h : CubeAt f w v L) : ∃ a cap, v = .slice a L.length cap ∧ L.length ≤ cap ∧ cap ≤ maxLen ∧
    (0 < L.length → ∃ b off, a = some ⟨b, off, none⟩ ∧ ∀ j, j < L.length → ∃ x, w.cell? ⟨b, off + j, none⟩ = some x ∧ MatAt f w x (L.getD j [])) := by
  obtain ⟨vs, ⟨a, cap, rfl, h1, h2, h3⟩, h4, h5⟩ := h
  refine ⟨a, cap, by rw [h4], by omega, h2, fun hp => ?_⟩
  obtain ⟨b, off, rfl, hc⟩ := h3 (by omega)
  refine ⟨b, off, rfl, fun j hj => ⟨vs.getD j nilS, ?_, h5 j⟩⟩
  rw [hc j (by omega)]
  have : j < vs.length := by omega
  simp [this]
end
section
variable {H : Type} {enc : TypeId × Value → H} {P : Program}
end
end
end Go.Proofs.YtkfimdpcadbcpaaGreatDoor
