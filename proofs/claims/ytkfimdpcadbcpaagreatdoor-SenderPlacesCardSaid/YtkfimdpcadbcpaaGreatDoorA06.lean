import Derived.Test.YtkfimdpcadbcpaaGreatDoorA04
import Derived.Test.YtkfimdpcadbcpaaGreatDoorA05
import Derived.OwnWalk
import Derived.WalkSpells
import Derived.WalkLawsBesides
import Derived.Deep.LoopGhost
import Derived.Test.YtkfimdpcadbcpaaGreatDoorA02
import Derived.Test.YtkfimdpcadbcpaaGreatDoorA01
set_option linter.unusedSimpArgs false
set_option linter.unusedVariables false
set_option maxRecDepth 1000000
set_option maxHeartbeats 8000000
namespace Go.Proofs.YtkfimdpcadbcpaaGreatDoor
section
def rowVec (r : List Nat) : Vec := fun c => decide (c ∈ r)
def maskV (m : Nat) : Vec := fun c => m.testBit c
def Mask (m : Nat) (r : List Nat) : Prop := ∀ c, m.testBit c = decide (c ∈ r)
theorem Mask.vec {m : Nat} {r : List Nat} (h : Mask m r) : maskV m = rowVec r := funext h
theorem Mask.nil : Mask 0 [] := fun c => by simp
theorem Mask.snoc {m : Nat} {r : List Nat} (h : Mask m r) (c : Nat) : Mask (m ||| 2 ^ c) (r ++ [c]) := fun d => by
  rw [Nat.testBit_or, h d, Nat.testBit_two_pow]
  by_cases h1 : d ∈ r <;> by_cases h2 : c = d
  · simp [h1, h2]
  · simp [h1, h2]
  · simp [h2]
  · simp [h1, h2]; omega
theorem zJl (a b : Nat) : maskV (a ^^^ b) = vadd (maskV a) (maskV b) := funext fun _ => Nat.testBit_xor ..
theorem zBb (a b : Nat) : Nat.beq a b = decide (a = b) := by
  cases hb : Nat.beq a b with
  | true => rw [decide_eq_true (Nat.eq_of_beq_eq_true hb)]
  | false => rw [decide_eq_false (Nat.ne_of_beq_eq_false hb)]
theorem zLV {a b : Nat} (h : a ≠ b) : Nat.beq a b = false := by rw [zBb, decide_eq_false h]
def force {α : Type} (n : Nat) (f : Nat → α) : α := Nat.rec (f 0) (fun m _ => f (Nat.succ m)) n
theorem zAs {α : Type} (n : Nat) (f : Nat → α) : force n f = f n := by cases n <;> rfl
def tb (x c : Nat) : Bool := Nat.beq (Nat.land 1 (Nat.shiftRight x c)) 1
theorem tb_eq (x c : Nat) : tb x c = x.testBit c := by
  show Nat.beq (1 &&& (x >>> c)) 1 = (1 &&& (x >>> c) != 0)
  rw [Nat.and_comm, Nat.and_one_is_mod]
  rcases Nat.mod_two_eq_zero_or_one (x >>> c) with h | h <;> rw [h] <;> rfl
noncomputable def red (ks : List (Nat × Nat)) (row : Nat) : Nat := List.rec row (fun k _ ih => force ih fun x => cond (tb x k.1) (Nat.xor x k.2) x) ks
theorem zMz (row : Nat) : red [] row = row := rfl
theorem zG1 (k : Nat × Nat) (ks : List (Nat × Nat)) (row : Nat) : red (k :: ks) row = if (red ks row).testBit k.1 = true then red ks row ^^^ k.2 else red ks row := by
  show force (red ks row) (fun x => cond (tb x k.1) (Nat.xor x k.2) x) = _
  rw [zAs, tb_eq]
  cases (red ks row).testBit k.1 <;> rfl
noncomputable def full (rows : List Nat) : List (Nat × Nat) → Bool := List.rec (fun _ => true) (fun r _ ih ks => force (red ks r) fun x => cond (Nat.beq x 0) false (force (Nat.log2 x) fun c => ih ((c, x) :: ks))) rows
theorem zI9 (r : Nat) (rs : List Nat) (ks : List (Nat × Nat)) : full (r :: rs) ks = (red ks r != 0 && full rs ((Nat.log2 (red ks r), red ks r) :: ks)) := by
  show force (red ks r) (fun x => cond (Nat.beq x 0) false (force (Nat.log2 x) fun c => full rs ((c, x) :: ks))) = _
  rw [zAs, zAs]
  by_cases h : red ks r = 0
  · rw [h]; rfl
  · rw [show Nat.beq (red ks r) 0 = false from zLV h]
    simp [h]
def Tri : List (Nat × Nat) → Prop
  | [] => True
  | k :: ks => k.2.testBit k.1 = true ∧ (∀ q ∈ ks, k.2.testBit q.1 = false) ∧ Tri ks
def kv (ks : List (Nat × Nat)) : List Vec := ks.map fun k => maskV k.2
theorem zKv (ks : List (Nat × Nat)) (row : Nat) : Sp (kv ks) (vadd (maskV (red ks row)) (maskV row)) := by
  induction ks with
  | nil => rw [zMz, zB1]; exact Sp.zero _
  | cons k ks ih =>
    have ih' : Sp (kv (k :: ks)) (vadd (maskV (red ks row)) (maskV row)) := ih.sub fun r hr => List.mem_cons_of_mem _ hr
    rw [zG1]
    split
    · rw [zJl, zBB]
      exact ih'.add (.mem List.mem_cons_self)
    · exact ih'
theorem zLl {ks : List (Nat × Nat)} (h : Tri ks) (row : Nat) : ∀ q ∈ ks, (red ks row).testBit q.1 = false := by
  induction ks with
  | nil => intro q hq; cases hq
  | cons k ks ih =>
    obtain ⟨h1, h2, h3⟩ := h
    intro q hq
    rw [zG1]
    rcases List.mem_cons.1 hq with rfl | hq
    · split
      · rename_i hb
        rw [Nat.testBit_xor, hb, h1]; rfl
      · rename_i hb
        simpa using hb
    · have e := ih h3 q hq
      split
      · rw [Nat.testBit_xor, e, h2 q hq]; rfl
      · exact e
theorem zIq (ks : List (Nat × Nat)) (i : Nat) (h : i < ks.length) : (kv ks).getD i vzero = maskV (ks[i]).2 := by
  simp [kv, h]
theorem zMa : ∀ {ks : List (Nat × Nat)}, Tri ks → (∀ i (hi : i < ks.length), (ks[i]).2.testBit (ks[i]).1 = true) ∧ ∀ i j (hi : i < ks.length) (hj : j < i), (ks[j]'(by omega)).2.testBit (ks[i]).1 = false
  | [], _ => ⟨fun i hi => by simp at hi, fun i j hi => by simp at hi⟩
  | k :: ks, ⟨h1, h2, h3⟩ => by
    obtain ⟨e1, e2⟩ := zMa h3
    refine ⟨fun i hi => ?_, fun i j hi hj => ?_⟩
    · cases i with
      | zero => exact h1
      | succ i => exact e1 i (by simpa using hi)
    · cases i with
      | zero => omega
      | succ i =>
        cases j with
        | zero => exact h2 _ (List.getElem_mem _)
        | succ j => exact e2 i j (by simpa using hi) (by omega)
theorem zKY {ks : List (Nat × Nat)} (h : Tri ks) : rk (kv ks) = ks.length := by
  obtain ⟨e1, e2⟩ := zMa h
  have hl : (kv ks).length = ks.length := by simp [kv]
  rw [zLT (fun i => (ks.getD i (0, 0)).1) (fun i hi => ?_) (fun i j hi hj => ?_), hl]
  · rw [hl] at hi
    rw [zIq ks i hi]
    have := e1 i hi
    simpa [hi, maskV] using this
  · rw [hl] at hi
    rw [zIq ks j (by omega)]
    have := e2 i j hi hj
    simpa [hi, maskV] using this
theorem zKi : ∀ (rows : List Nat) (ks : List (Nat × Nat)) (done : List Vec), full rows ks = true → Tri ks → SpEq (kv ks) done → ks.length = done.length → rk (done ++ rows.map maskV) = done.length + rows.length := by
  intro rows
  induction rows with
  | nil =>
    intro ks done _ ht hs hl
    rw [List.map_nil, List.append_nil, ← zGI hs, zKY ht, hl]
    rfl
  | cons r rs ih =>
    intro ks done hf ht hs hl
    rw [zI9, Bool.and_eq_true] at hf
    obtain ⟨h0, hf⟩ := hf
    have h0 : red ks r ≠ 0 := by simpa using h0
    have hsp := zKv ks r
    have key := ih ((Nat.log2 (red ks r), red ks r) :: ks) (done ++ [maskV r]) hf ⟨Nat.testBit_log2 h0, zLl ht r, ht⟩ (SpEq.trans (SpEq.of (fun x hx => ?_) (fun x hx => ?_)) (hs.snoc (maskV r))) (by simp [hl])
    · rw [List.append_assoc, List.singleton_append] at key
      rw [List.map_cons, key]
      simp
      omega
    · rcases List.mem_cons.1 hx with rfl | hx
      · exact Sp.of_add (hsp.sub fun y hy => List.mem_append_left _ hy) (.mem (by simp))
      · exact .mem (List.mem_append_left _ hx)
    · rcases List.mem_append.1 hx with hx | hx
      · exact .mem (List.mem_cons_of_mem _ hx)
      · obtain rfl := List.mem_singleton.1 hx
        have h1 : Sp (kv ((Nat.log2 (red ks r), red ks r) :: ks)) (vadd (maskV (red ks r)) (maskV r)) := hsp.sub fun y hy => List.mem_cons_of_mem _ hy
        rw [show vadd (maskV (red ks r)) (maskV r) = vadd (maskV r) (maskV (red ks r)) from zAA _ _] at h1
        exact Sp.of_add h1 (.mem List.mem_cons_self)
theorem zMw {rows : List Nat} (h : full rows [] = true) : rk (rows.map maskV) = rows.length := by
  have := zKi rows [] [] h trivial (SpEq.refl _) rfl
  simpa using this
def ldF (s row c : Nat) : Bool := force (Nat.mod c s) fun b => force (Nat.add 1 (Nat.mod (Nat.div c s) (Nat.sub s 1))) fun a =>
  cond (Nat.beq row b) true (cond (Nat.beq row (Nat.mod (Nat.add b a) s)) true (Nat.beq row (Nat.mod (Nat.add b (Nat.mul 2 a)) s)))
theorem zNJ {k s row c : Nat} (h : c < k) : ldF s row c = ldB k s row c := by
  rw [zG3 h]
  unfold ldF
  rw [zAs, zAs, zBb, zBb, zBb]
  show cond _ true (cond _ true _) = (decide (row = c % s) || decide (row = (c % s + ldA s c) % s) || decide (row = (c % s + 2 * ldA s c) % s))
  have e : Nat.add 1 (Nat.mod (Nat.div c s) (Nat.sub s 1)) = ldA s c := rfl
  rw [e]
  have e1 : Nat.mod c s = c % s := rfl
  rw [e1]
  have e2 : Nat.mod (Nat.add (c % s) (ldA s c)) s = (c % s + ldA s c) % s := rfl
  have e3 : Nat.mod (Nat.add (c % s) (Nat.mul 2 (ldA s c))) s = (c % s + 2 * ldA s c) % s := rfl
  rw [e2, e3]
  cases decide (row = c % s) <;> cases decide (row = (c % s + ldA s c) % s) <;> rfl
noncomputable def mLt (s row t : Nat) : Nat := Nat.rec 0 (fun c ih => cond (ldF s row c) (Nat.lor ih (Nat.pow 2 c)) ih) t
noncomputable def mLf (k s row : Nat) : Nat := Nat.lor (mLt s row k) (Nat.pow 2 (Nat.add k row))
theorem zNr {k s row : Nat} : ∀ t, t ≤ k → Mask (mLt s row t) ((List.range t).filter (ldB k s row)) := by
  intro t
  induction t with
  | zero => intro _; exact Mask.nil
  | succ t ih =>
    intro ht
    have e : mLt s row (t + 1) = cond (ldF s row t) (mLt s row t ||| 2 ^ t) (mLt s row t) := rfl
    rw [e, zNJ (k := k) (by omega)]
    by_cases h : ldB k s row t = true
    · rw [h, zEO h]
      exact (ih (by omega)).snoc t
    · have h' : ldB k s row t = false := by simpa using h
      rw [h', zGo h']
      exact ih (by omega)
theorem zNE {k s row : Nat} (h : row < s) : Mask (mLf k s row) (rowL k s row) := by
  rw [zGa h]
  exact (zNr k (Nat.le_refl _)).snoc (k + row)
noncomputable def mHg (x : Nat) (g : List Nat) : Nat := List.rec 0 (fun v _ ih => force ih fun m => cond (tb v x) (Nat.succ (Nat.mul 2 m)) (Nat.mul 2 m)) g
theorem zKW (x v : Nat) (g : List Nat) : mHg x (v :: g) = 2 * mHg x g + (v.testBit x).toNat := by
  show force (mHg x g) (fun m => cond (tb v x) (Nat.succ (Nat.mul 2 m)) (Nat.mul 2 m)) = _
  rw [zAs, tb_eq]
  cases v.testBit x <;> rfl
theorem zJR (x : Nat) : ∀ (g : List Nat) (c : Nat), (mHg x g).testBit c = (decide (c < g.length) && (g.getD c 0).testBit x)
  | [], c => by show (0 : Nat).testBit c = _; simp
  | v :: g, c => by
    rw [zKW]
    cases c with
    | zero =>
      rw [Nat.testBit_zero]
      cases hv : v.testBit x <;> simp [hv, Nat.add_mod]
    | succ c =>
      have e : (2 * mHg x g + (v.testBit x).toNat) / 2 = mHg x g := by cases v.testBit x <;> simp <;> omega
      rw [Nat.testBit_succ, e, zJR x g c]
      simp
noncomputable def mHf (k s : Nat) (g : List Nat) (x : Nat) : Nat := Nat.lor (mHg x g) (Nat.pow 2 (Nat.add (Nat.add k s) x))
theorem zN6 {k s : Nat} {g : List Nat} (hg : g.length = k + s) (x : Nat) : Mask (mHf k s g x) (rowH k s g x) := by
  have h : Mask (mHg x g) (colB g (k + s) x) := fun c => by
    rw [zJR, hg]
    unfold colB
    have e : (decide (c < k + s) && (g.getD c 0).testBit x) = decide (c < k + s ∧ (g.getD c 0).testBit x = true) := by
      by_cases h1 : c < k + s <;> simp [h1]
    rw [e, decide_eq_decide, List.mem_filter, List.mem_range]
  exact h.snoc (k + s + x)
noncomputable def mTf (l p st fuel : Nat) : Nat → Nat → Nat → Nat := Nat.rec (fun _ _ acc => acc) (fun _ ih at_ d acc => cond (Nat.beq d 0) acc (force (Nat.mod (Nat.add at_ st) p) fun nx => cond (Nat.ble (Nat.succ at_) l) (force (Nat.pred d) fun e => force (Nat.lor acc (Nat.pow 2 at_)) fun a => ih nx e a) (ih nx d acc))) fuel
theorem zKC (l p st n at_ d acc : Nat) : mTf l p st (n + 1) at_ d acc = if d = 0 then acc else if at_ < l then mTf l p st n ((at_ + st) % p) (d - 1) (acc ||| 2 ^ at_) else mTf l p st n ((at_ + st) % p) d acc := by
  show cond (Nat.beq d 0) acc (force (Nat.mod (Nat.add at_ st) p) fun nx => cond (Nat.ble (Nat.succ at_) l) (force (Nat.pred d) fun e => force (Nat.lor acc (Nat.pow 2 at_)) fun a => mTf l p st n nx e a) (mTf l p st n nx d acc)) = _
  rw [zAs, zAs, zAs]
  by_cases h : d = 0
  · rw [if_pos h, h]; rfl
  · rw [if_neg h, zLV h]
    show cond (Nat.ble (Nat.succ at_) l) (mTf l p st n ((at_ + st) % p) (d - 1) (acc ||| 2 ^ at_)) (mTf l p st n ((at_ + st) % p) d acc) = _
    by_cases h2 : at_ < l
    · rw [if_pos h2, Nat.ble_eq_true_of_le h2]; rfl
    · rw [if_neg h2, show Nat.ble (Nat.succ at_) l = false from by
        cases hb : Nat.ble (Nat.succ at_) l with
        | false => rfl
        | true => exact absurd (Nat.le_of_ble_eq_true hb) h2]
      rfl
theorem zNK {l p st a : Nat} : ∀ n j d acc, j + n = p → Mask acc (trW l p st a j) → ∃ i, i ≤ p ∧ Mask (mTf l p st n (seqA p st a j) d acc) (trW l p st a i) ∧ ((trW l p st a i).length = (trW l p st a j).length + d ∨ (i = p ∧ (trW l p st a i).length ≤ (trW l p st a j).length + d)) := by
  intro n
  induction n with
  | zero =>
    intro j d acc hj hm
    exact ⟨j, by omega, hm, .inr ⟨by omega, by omega⟩⟩
  | succ n ih =>
    intro j d acc hj hm
    rw [zKC]
    by_cases h : d = 0
    · rw [if_pos h]
      exact ⟨j, by omega, hm, .inl (by omega)⟩
    · rw [if_neg h, ← zE6]
      by_cases h2 : seqA p st a j < l
      · rw [if_pos h2]
        have e := zL5 h2
        obtain ⟨i, h3, h4, h5⟩ := ih (j + 1) (d - 1) (acc ||| 2 ^ seqA p st a j) (by omega) (by rw [e]; exact hm.snoc _)
        rw [e, List.length_append, List.length_singleton] at h5
        exact ⟨i, h3, h4, by omega⟩
      · rw [if_neg h2]
        have e := zGx h2
        obtain ⟨i, h3, h4, h5⟩ := ih (j + 1) d acc (by omega) (by rw [e]; exact hm)
        rw [e] at h5
        exact ⟨i, h3, h4, h5⟩
theorem zNR {l p st a d : Nat} {W : List Nat} (hp : IsP p) (h1 : 1 ≤ st) (h2 : st < p) (ha : a < p) (hl : l ≤ p) (hd : d ≤ l) (hW : IsTr l p st a d W) : Mask (mTf l p st p a d 0) W := by
  obtain ⟨i, h3, h4, h5⟩ := zNK (l := l) (p := p) (st := st) (a := a) p 0 d 0 (by omega) (by rw [zEB]; exact Mask.nil)
  rw [zFa ha] at h4
  rw [zEB] at h5
  have hlen : (trW l p st a i).length = d := by
    rcases h5 with h5 | ⟨rfl, h5⟩
    · simpa using h5
    · have := zEg (a := a) hp h1 h2 hl
      simp at h5
      omega
  obtain rfl := hW.unique ⟨hlen, i, h3, rfl⟩
  exact h4
def foldF (h k : Nat) : Nat := force h fun x => Nat.xor x (Nat.shiftRight x k)
theorem zEp (h k : Nat) : foldF h k = foldN h k := by unfold foldF; rw [zAs]; rfl
def mixF (x s : Nat) : Nat := foldF (Nat.mod (Nat.mul (foldF (Nat.mod (Nat.mul (foldF (Nat.mod (Nat.add (Nat.mul x 2654435761) s) 4294967296) 16) 2246822507) 4294967296) 13) 3266489909) 4294967296) 16
theorem zEq (x s : Nat) : mixF x s = mixN x s := by unfold mixF; rw [zEp, zEp, zEp]; rfl
def dgF (v : Nat) : Nat := force v fun v => cond (Nat.ble 10241 v) (cond (Nat.ble 491582 v) (cond (Nat.ble 712794 v) (cond (Nat.ble 831695 v) (cond (Nat.ble 948446 v) (cond (Nat.ble 1032189 v) 40 11) 10) 4) 3) 2) 1
theorem zDH (a b : Nat) : Nat.ble a b = decide (a ≤ b) := by
  by_cases h : a ≤ b
  · rw [Nat.ble_eq_true_of_le h, decide_eq_true h]
  · rw [decide_eq_false h]
    cases hb : Nat.ble a b with
    | false => rfl
    | true => exact absurd (Nat.le_of_ble_eq_true hb) h
theorem zND (v : Nat) : dgF v = (dgOf (v : Int)).toNat := by
  unfold dgF dgOf
  rw [zAs]
  simp only [zDH]
  by_cases h1 : (v : Int) < 10241
  · rw [if_pos h1, decide_eq_false (by omega)]; rfl
  rw [if_neg h1, decide_eq_true (by omega)]
  by_cases h2 : (v : Int) < 491582
  · rw [if_pos h2, decide_eq_false (by omega)]; rfl
  rw [if_neg h2, decide_eq_true (by omega)]
  by_cases h3 : (v : Int) < 712794
  · rw [if_pos h3, decide_eq_false (by omega)]; rfl
  rw [if_neg h3, decide_eq_true (by omega)]
  by_cases h4 : (v : Int) < 831695
  · rw [if_pos h4, decide_eq_false (by omega)]; rfl
  rw [if_neg h4, decide_eq_true (by omega)]
  by_cases h5 : (v : Int) < 948446
  · rw [if_pos h5, decide_eq_false (by omega)]; rfl
  rw [if_neg h5, decide_eq_true (by omega)]
  by_cases h6 : (v : Int) < 1032189
  · rw [if_pos h6, decide_eq_false (by omega)]; rfl
  rw [if_neg h6, decide_eq_true (by omega)]
  rfl
def minF (a b : Nat) : Nat := cond (Nat.ble a b) a b
theorem zMx (a b : Nat) : minF a b = min a b := by
  unfold minF
  rw [zDH, Nat.min_def]
  by_cases h : a ≤ b <;> simp [h]
noncomputable def mEf (l p seed e : Nat) : Nat := force (mixF e seed) fun y => force (minF (dgF (Nat.mod (mixF y 0) 1048576)) l) fun d => force (Nat.add 1 (Nat.mod (mixF y 1) (Nat.sub p 1))) fun st => force (Nat.mod (mixF y 2) p) fun a => mTf l p st p a d 0
theorem zN7 (l p seed e : Nat) : mEf l p seed e = mTf l p (trS p (mixN e seed)) p (trA p (mixN e seed)) (trD l (mixN e seed)) 0 := by
  unfold mEf
  rw [zAs, zAs, zAs, zAs, zMx, zND, zEq, zEq, zEq, zEq]
  rfl
theorem zNT {l p seed e : Nat} {W : List Nat} (hp : IsP p) (hl1 : 1 ≤ l) (hl : l ≤ p) (hW : IsTr l p (trS p (mixN e seed)) (trA p (mixN e seed)) (trD l (mixN e seed)) W) : Mask (mEf l p seed e) W := by
  rw [zN7]
  exact zNR hp (zEW hp.1).1 (zEW hp.1).2 (zL0 hp.1) hl (zIN hl1).2 hW
noncomputable def rowsF (k s h l p seed : Nat) (g : List Nat) : List Nat := (List.range s).map (mLf k s) ++ ((List.range h).map (mHf k s g) ++ (List.range k).map (mEf l p seed))
theorem zKJ {k s h l p seed : Nat} {g : List Nat} (hg : g.length = k + s) (hp : IsP p) (hl1 : 1 ≤ l) (hl : l ≤ p) {W : Nat → List Nat}
    (hW : ∀ e, e < k → IsTr l p (trS p (mixN e seed)) (trA p (mixN e seed)) (trD l (mixN e seed)) (W e)) :
    (rowsF k s h l p seed g).map maskV = (rowsP k s h g ++ (List.range k).map W).map rowVec := by
  unfold rowsF rowsP
  simp only [List.map_append, List.map_map, List.append_assoc]
  congr 1
  · exact List.map_congr_left fun r hr => (zNE (List.mem_range.1 hr)).vec
  · congr 1
    · exact List.map_congr_left fun x _ => (zN6 hg x).vec
    · exact List.map_congr_left fun e he => (zNT hp hl1 hl (hW e (List.mem_range.1 he))).vec
theorem zES (k s h l p seed : Nat) (g : List Nat) : (rowsF k s h l p seed g).length = s + h + k := by
  unfold rowsF
  simp [Nat.add_assoc]
end

section
def sdTab : List (Nat × Nat × Nat × Nat × Nat) := [(2, 3, 4, 11, 0), (3, 5, 5, 13, 3), (3, 5, 5, 13, 0), (4, 5, 5, 17, 1), (4, 5, 5, 17, 1), (4, 5, 6, 17, 1), (5, 7, 6, 23, 1), (5, 7, 6, 23, 2), (5, 7, 6, 23, 1), (5, 7, 6, 23, 4), (6, 7, 6, 29, 4), (6, 7, 6, 29, 18), (6, 7, 6, 29, 9), (6, 7, 7, 29, 5), (6, 7, 7, 29, 2), (7, 11, 7, 37, 0), (7, 11, 7, 37, 2), (7, 11, 7, 37, 3), (7, 11, 7, 37, 22), (7, 11, 7, 41, 2), (7, 11, 7, 41, 3), (8, 11, 7, 41, 0), (8, 11, 7, 41, 1), (8, 11, 7, 43, 0), (8, 11, 8, 47, 1), (8, 11, 8, 47, 1), (8, 11, 8, 47, 0), (8, 11, 8, 47, 0), (9, 11, 8, 53, 9), (9, 11, 8, 53, 13), (9, 11, 8, 53, 1), (9, 11, 8, 53, 2), (9, 11, 8, 53, 13), (9, 11, 8, 53, 1), (9, 11, 8, 59, 0), (9, 11, 8, 59, 0), (10, 11, 8, 59, 2), (10, 11, 8, 59, 4), (10, 11, 8, 59, 3), (10, 11, 8, 59, 1), (10, 11, 8, 61, 0), (10, 11, 8, 61, 8), (10, 11, 8, 67, 1), (10, 11, 8, 67, 3), (10, 11, 8, 67, 0), (11, 13, 8, 67, 2), (11, 13, 8, 71, 3), (11, 13, 8, 71, 2), (11, 13, 8, 71, 0), (11, 13, 8, 71, 2), (11, 13, 8, 73, 3), (11, 13, 8, 73, 2), (11, 13, 8, 79, 4), (11, 13, 8, 79, 4), (11, 13, 8, 79, 1), (12, 13, 8, 79, 6), (12, 13, 8, 79, 1), (12, 13, 9, 83, 2), (12, 13, 9, 83, 7), (12, 13, 9, 83, 8), (12, 13, 9, 83, 2), (12, 13, 9, 89, 7), (12, 13, 9, 89, 6), (12, 13, 9, 89, 4), (12, 13, 9, 89, 4), (12, 13, 9, 89, 5), (13, 17, 9, 97, 4), (13, 17, 9, 97, 1), (13, 17, 9, 97, 1), (13, 17, 9, 97, 4), (13, 17, 9, 97, 4), (13, 17, 9, 101, 0), (13, 17, 9, 101, 2), (13, 17, 9, 101, 13), (13, 17, 9, 101, 1), (13, 17, 9, 103, 0), (13, 17, 9, 103, 1), (13, 17, 9, 107, 1), (14, 17, 9, 107, 4), (14, 17, 9, 107, 1), (14, 17, 9, 107, 5), (14, 17, 9, 109, 0), (14, 17, 9, 109, 7), (14, 17, 9, 113, 5), (14, 17, 9, 113, 0), (14, 17, 9, 113, 13), (14, 17, 9, 113, 11), (14, 17, 9, 127, 3), (14, 17, 9, 127, 3), (14, 17, 9, 127, 3), (14, 17, 9, 127, 4), (15, 17, 9, 127, 13), (15, 17, 9, 127, 4), (15, 17, 9, 127, 4), (15, 17, 9, 127, 4), (15, 17, 9, 127, 2), (15, 17, 9, 127, 4), (15, 17, 9, 127, 2), (15, 17, 9, 127, 3), (15, 17, 9, 127, 7), (15, 17, 9, 127, 4), (15, 17, 9, 131, 1), (15, 17, 9, 131, 13), (15, 17, 9, 131, 3), (15, 17, 9, 131, 6), (16, 19, 9, 137, 2), (16, 19, 9, 137, 1), (16, 19, 10, 137, 0), (16, 19, 10, 139, 5), (16, 19, 10, 139, 5), (16, 19, 10, 149, 0), (16, 19, 10, 149, 2), (16, 19, 10, 149, 1), (16, 19, 10, 149, 8), (16, 19, 10, 149, 2), (16, 19, 10, 149, 0), (16, 19, 10, 149, 1), (16, 19, 10, 149, 0), (16, 19, 10, 149, 3), (16, 19, 10, 149, 9), (17, 19, 10, 151, 4), (17, 19, 10, 151, 11), (17, 19, 10, 157, 1), (17, 19, 10, 157, 7), (17, 19, 10, 157, 16), (17, 19, 10, 157, 1), (17, 19, 10, 157, 3), (17, 19, 10, 157, 25)]
def gyTab2 : List Nat := [3, 6, 5, 12, 10, 9]
theorem zJ4 : graysTo 2 16 = gyTab2 := by decide +kernel
def gyTab3 : List Nat := [7, 13, 14, 11, 25, 26, 28, 21, 22, 19, 49, 50, 52, 56, 41, 42, 44, 37, 38, 35]
theorem zJK : graysTo 3 64 = gyTab3 := by decide +kernel
def gyTab4 : List Nat := [15, 27, 30, 29, 23, 51, 54, 53, 60, 58, 57, 43, 46, 45, 39, 99, 102, 101, 108, 106, 105, 120, 116, 114, 113, 83, 86, 85, 92, 90, 89, 75, 78, 77, 71, 195, 198, 197, 204, 202, 201, 216, 212, 210, 209, 240, 232, 228, 226, 225, 163, 166, 165, 172, 170, 169, 184, 180, 178, 177, 147, 150, 149, 156, 154, 153, 139, 142, 141, 135]
theorem zJb : graysTo 4 256 = gyTab4 := by decide +kernel
def gyTab5 : List Nat := [31, 55, 61, 62, 59, 47, 103, 109, 110, 107, 121, 122, 124, 117, 118, 115, 87, 93, 94, 91, 79, 199, 205, 206, 203, 217, 218, 220, 213, 214, 211, 241, 242, 244, 248, 233, 234, 236, 229, 230, 227, 167, 173, 174, 171, 185, 186, 188, 181, 182, 179, 151, 157, 158, 155, 143, 391, 397, 398, 395, 409, 410, 412, 405, 406, 403, 433, 434, 436, 440, 425, 426, 428, 421, 422, 419, 481, 482, 484, 488, 496, 465, 466, 468, 472, 457, 458, 460, 453, 454, 451, 327, 333, 334, 331, 345, 346, 348, 341, 342, 339, 369, 370, 372, 376, 361, 362, 364, 357, 358, 355, 295, 301, 302, 299, 313, 314, 316, 309, 310, 307, 279, 285, 286, 283, 271, 775, 781, 782, 779, 793, 794, 796, 789, 790, 787, 817, 818, 820, 824, 809, 810, 812, 805, 806, 803, 865, 866, 868, 872, 880, 849, 850, 852, 856, 841, 842, 844, 837, 838, 835, 961, 962, 964, 968, 976, 992, 929, 930, 932, 936, 944, 913, 914, 916, 920, 905, 906, 908, 901, 902, 899, 647, 653, 654, 651, 665, 666, 668, 661, 662, 659, 689, 690, 692, 696, 681, 682, 684, 677, 678, 675, 737, 738, 740, 744, 752, 721, 722, 724, 728, 713, 714, 716, 709, 710, 707, 583, 589, 590, 587, 601, 602, 604, 597, 598, 595, 625, 626, 628, 632, 617, 618, 620, 613, 614, 611, 551, 557, 558, 555, 569, 570, 572, 565, 566, 563, 535, 541, 542, 539, 527]
theorem zJa : graysTo 5 1024 = gyTab5 := by decide +kernel
def compB (q : Nat) : Bool := Nat.ble q 1 || (List.range 11).any fun d => Nat.blt (d + 2) q && Nat.beq (q % (d + 2)) 0
def primB (q : Nat) : Bool := Nat.ble 2 q && Nat.blt q 169 && (List.range 11).all fun d => !(Nat.beq (q % (d + 2)) 0) || Nat.ble q (d + 2)
theorem zLQ {q : Nat} (h : compB q = true) : ¬ IsP q := by
  unfold compB at h
  rw [Bool.or_eq_true, List.any_eq_true] at h
  rcases h with h | ⟨d, -, h⟩
  · have := Nat.le_of_ble_eq_true h
    exact fun hp => by have := hp.1; omega
  · rw [Bool.and_eq_true] at h
    have h1 : d + 2 < q := Nat.le_of_ble_eq_true h.1
    have h2 : q % (d + 2) = 0 := Nat.eq_of_beq_eq_true h.2
    exact zJC (by omega) h1 h2
theorem zLD {q : Nat} (h : primB q = true) : IsP q := by
  unfold primB at h
  rw [Bool.and_eq_true, Bool.and_eq_true, List.all_eq_true] at h
  obtain ⟨⟨h1, h2⟩, h3⟩ := h
  have h1 := Nat.le_of_ble_eq_true h1
  have h2 : q < 169 := Nat.le_of_ble_eq_true h2
  have key : ∀ d, 2 ≤ d → d < 13 → d < q → q % d ≠ 0 := fun d e1 e2 e3 => by
    have := h3 (d - 2) (List.mem_range.2 (by omega))
    rw [show d - 2 + 2 = d by omega, Bool.or_eq_true, zBb] at this
    rcases this with h4 | h4
    · simpa using h4
    · have := Nat.le_of_ble_eq_true h4
      omega
  refine ⟨h1, fun d e1 e2 e3 => ?_⟩
  rcases Nat.lt_or_ge d 13 with h4 | h4
  · exact key d e1 h4 e2 e3
  · obtain ⟨m, hm⟩ := Nat.dvd_of_mod_eq_zero e3
    have hm1 : m < 13 := by
      refine Nat.lt_of_not_le fun hc => ?_
      have := Nat.mul_le_mul h4 hc
      omega
    have hm2 : 2 ≤ m := by
      rcases (by omega : m = 0 ∨ m = 1 ∨ 2 ≤ m) with rfl | rfl | h5
      · omega
      · omega
      · exact h5
    have hm3 : m < q := by
      rw [hm]
      have := Nat.mul_le_mul_right m (show 2 ≤ d from e1)
      omega
    exact key m hm2 hm1 hm3 (by rw [hm]; exact Nat.mul_mod_left _ _)
def leastB (n p : Nat) : Bool := Nat.ble n p && primB p && (List.range (p - n)).all fun i => compB (n + i)
theorem zEJ {n p : Nat} (h : leastB n p = true) : LeastP (n : Int) p := by
  unfold leastB at h
  rw [Bool.and_eq_true, Bool.and_eq_true, List.all_eq_true] at h
  obtain ⟨⟨h1, h2⟩, h3⟩ := h
  have h1 := Nat.le_of_ble_eq_true h1
  refine ⟨zLD h2, by omega, fun q e1 e2 => ?_⟩
  have := h3 (q - n) (List.mem_range.2 (by omega))
  rw [show n + (q - n) = q by omega] at this
  exact zLQ this
def numsB (k x s h p : Nat) : Bool := Nat.ble 1 x && Nat.ble (2 * k) (x * (x - 1)) && Nat.blt ((x - 1) * (x - 2)) (2 * k) && leastB ((k + 99) / 100 + x) s && Nat.ble (k + s) (ch h ((h + 1) / 2)) && ((List.range h).all fun j => Nat.blt (ch j ((j + 1) / 2)) (k + s)) && leastB (k + s + h) p
theorem zKT {k x s h p : Nat} (H : numsB k x s h p = true) : OfP k s h (k + s + h) p := by
  unfold numsB at H
  simp only [Bool.and_eq_true, List.all_eq_true] at H
  obtain ⟨⟨⟨⟨⟨⟨h1, h2⟩, h3⟩, h4⟩, h5⟩, h6⟩, h7⟩ := H
  have h1 := Nat.le_of_ble_eq_true h1
  have h2 := Nat.le_of_ble_eq_true h2
  have h3 : (x - 1) * (x - 2) < 2 * k := Nat.le_of_ble_eq_true h3
  refine ⟨⟨x, ⟨h1, h2, fun y e1 e2 => ?_⟩, zEJ h4⟩, ⟨Nat.le_of_ble_eq_true h5, fun j hj => Nat.le_of_ble_eq_true (h6 j (List.mem_range.2 hj))⟩, rfl, zEJ h7⟩
  exact Nat.lt_of_le_of_lt (Nat.mul_le_mul (show y ≤ x - 1 by omega) (show y - 1 ≤ x - 2 by omega)) h3
def gyTab (w : Nat) : List Nat := match w with | 2 => gyTab2 | 3 => gyTab3 | 4 => gyTab4 | _ => gyTab5
theorem zK9 {w n : Nat} (h1 : 2 ≤ w) (h2 : w ≤ 5) (hn : n ≤ (gyTab w).length) {l : List Nat} (hl : IsGr w n l) : l = (gyTab w).take n := by
  have key : ∃ m, m ≤ 1048576 ∧ graysTo w m = gyTab w := by
    rcases (by omega : w = 2 ∨ w = 3 ∨ w = 4 ∨ w = 5) with rfl | rfl | rfl | rfl
    · exact ⟨_, by decide, zJ4⟩
    · exact ⟨_, by decide, zJK⟩
    · exact ⟨_, by decide, zJb⟩
    · exact ⟨_, by decide, zJa⟩
  obtain ⟨m, hm, e⟩ := key
  rw [← e] at hn ⊢
  obtain ⟨k, k1, rfl, k3, k4⟩ := hl
  rcases Nat.le_total k m with hh | hh
  · have hp := zA8 w hh
    have hlen : (graysTo w k).length = n := by
      rcases k4 with k4 | k4
      · exact k4
      · have : k = m := by omega
        subst this
        omega
    rw [List.prefix_iff_eq_take] at hp
    rw [hlen] at hp
    exact hp
  · have hp := zA8 w hh
    have e2 := zDg hp (by omega)
    rw [← e2, List.take_of_length_le (by have := hp.length_le; rw [← e2] at k3; exact k3)]
noncomputable def seedB (k : Nat) : (Nat × Nat × Nat × Nat × Nat) → Bool
  | (x, s, h, p, seed) => numsB k x s h p && Nat.ble 3 h && Nat.ble h 10 && Nat.ble (k + s) (gyTab ((h + 1) / 2)).length && Nat.blt seed 65536 && full (rowsF k s h (k + s + h) p seed ((gyTab ((h + 1) / 2)).take (k + s))) []
theorem zKV {k : Nat} {t : Nat × Nat × Nat × Nat × Nat} (H : seedB k t = true) (hk1 : 1 ≤ k) (hk2 : k ≤ 128) {s h l p : Nat} (ho : OfP k s h l p) :
    ∃ seed, seed < 65536 ∧ ∀ g, IsGr ((h + 1) / 2) (k + s) g → ∀ W : Nat → List Nat, (∀ e, e < k → IsTr l p (trS p (mixN e seed)) (trA p (mixN e seed)) (trD l (mixN e seed)) (W e)) → rk ((rowsP k s h g ++ (List.range k).map W).map rowVec) = l := by
  obtain ⟨x, s', h', p', seed⟩ := t
  unfold seedB at H
  simp only [Bool.and_eq_true] at H
  obtain ⟨⟨⟨⟨⟨h1, h2⟩, h3⟩, h4⟩, h5⟩, h6⟩ := H
  obtain ⟨rfl, rfl, rfl, rfl⟩ := (zKT h1).unique ho
  have h2 := Nat.le_of_ble_eq_true h2
  have h3 := Nat.le_of_ble_eq_true h3
  have h4 := Nat.le_of_ble_eq_true h4
  have h5 : seed < 65536 := Nat.le_of_ble_eq_true h5
  obtain ⟨b1, b2, b3, b4, b5, b6, b7⟩ := ho.bounds hk1 hk2
  refine ⟨seed, h5, fun g hg W hW => ?_⟩
  obtain rfl := zK9 (w := (h' + 1) / 2) (by omega) (by omega) h4 hg
  have hlen : ((gyTab ((h' + 1) / 2)).take (k + s')).length = k + s' := by rw [List.length_take]; omega
  rw [← zKJ (seed := seed) hlen ho.2.2.2.1 (by omega) b6 hW, zMw h6, zES]
  omega
end

section
theorem zNz : ((List.range 64).all fun i => seedB (i + 1) (sdTab.getD i (0, 0, 0, 0, 0))) = true := by decide +kernel
theorem zN9 : ((List.range 32).all fun i => seedB (i + 65) (sdTab.getD (i + 64) (0, 0, 0, 0, 0))) = true := by decide +kernel
theorem zN4 : ((List.range 32).all fun i => seedB (i + 97) (sdTab.getD (i + 96) (0, 0, 0, 0, 0))) = true := by decide +kernel
theorem zMS {k s h l p : Nat} (hk1 : 1 ≤ k) (hk2 : k ≤ 128) (ho : OfP k s h l p) :
    ∃ seed, seed < 65536 ∧ ∀ g, IsGr ((h + 1) / 2) (k + s) g → ∀ W : Nat → List Nat, (∀ e, e < k → IsTr l p (trS p (mixN e seed)) (trA p (mixN e seed)) (trD l (mixN e seed)) (W e)) → rk ((rowsP k s h g ++ (List.range k).map W).map rowVec) = l := by
  have hb : seedB k (sdTab.getD (k - 1) (0, 0, 0, 0, 0)) = true := by
    rcases (by omega : k ≤ 64 ∨ (65 ≤ k ∧ k ≤ 96) ∨ 97 ≤ k) with h | h | h
    · have := List.all_eq_true.1 zNz (k - 1) (List.mem_range.2 (by omega))
      rwa [show k - 1 + 1 = k by omega] at this
    · have := List.all_eq_true.1 zN9 (k - 65) (List.mem_range.2 (by omega))
      rwa [show k - 65 + 65 = k by omega, show k - 65 + 64 = k - 1 by omega] at this
    · have := List.all_eq_true.1 zN4 (k - 97) (List.mem_range.2 (by omega))
      rwa [show k - 97 + 97 = k by omega, show k - 97 + 96 = k - 1 by omega] at this
  exact zKV hb hk1 hk2 ho
end

section
def risN (l : Nat) (W : List Nat) : List Nat := (List.range l).filter fun x => decide (x ∈ W)
theorem zK7 {l x : Nat} {W : List Nat} : x ∈ risN l W ↔ x < l ∧ x ∈ W := by
  unfold risN
  rw [List.mem_filter, List.mem_range, decide_eq_true_eq]
theorem zDj (l : Nat) (W : List Nat) : (risN l W).Pairwise (· < ·) := List.Pairwise.filter _ List.pairwise_lt_range
theorem zDV (l : Nat) (W : List Nat) : (risN l W).Nodup := (zDj l W).imp fun h => Nat.ne_of_lt h
theorem zIY {l : Nat} {W : List Nat} (hnd : W.Nodup) (hlt : ∀ x ∈ W, x < l) : (risN l W).Perm W :=
  (List.perm_ext_iff_of_nodup (zDV l W) hnd).2 fun x => ⟨fun h => (zK7.1 h).2, fun h => zK7.2 ⟨hlt x h, h⟩⟩
theorem zLa {l : Nat} {W : List Nat} (hnd : W.Nodup) (hlt : ∀ x ∈ W, x < l) :
    ((W.map Int.ofNat).mergeSort fun x y => decide (x ≤ y)) = (risN l W).map Int.ofNat := by
  refine List.Perm.eq_of_pairwise (le := fun a b : Int => a ≤ b) (fun a b _ _ h1 h2 => Int.le_antisymm h1 h2) ?_ ?_ ?_
  · have := List.pairwise_mergeSort (le := fun x y : Int => decide (x ≤ y)) (fun a b c h1 h2 => by
      simp only [decide_eq_true_eq] at h1 h2 ⊢; omega) (fun a b => by
      simp only [Bool.or_eq_true, decide_eq_true_eq]; omega) (W.map Int.ofNat)
    exact this.imp fun h => of_decide_eq_true h
  · rw [List.pairwise_map]
    exact (zDj l W).imp fun h => by
      show ((_ : Nat) : Int) ≤ ((_ : Nat) : Int)
      omega
  · exact (List.mergeSort_perm _ _).trans ((zIY hnd hlt).symm.map _)
end

section
section
variable {R R' : List Vec} {done c i : Nat} {p : Nat → Nat}
end
def stL (U : Nat → Vec) (n : Nat) : List Vec := (List.range n).map U
theorem mem_stL {U : Nat → Vec} {n : Nat} {r : Vec} : r ∈ stL U n ↔ ∃ c, c < n ∧ U c = r := by
  unfold stL
  rw [List.mem_map]
  constructor
  · rintro ⟨c, hc, e⟩; exact ⟨c, List.mem_range.1 hc, e⟩
  · rintro ⟨c, hc, e⟩; exact ⟨c, List.mem_range.2 hc, e⟩
def upd (U : Nat → Vec) (a : Nat) (x : Vec) : Nat → Vec := fun d => if d = a then x else U d
theorem zGQ (U : Nat → Vec) (a : Nat) (x : Vec) : upd U a x a = x := if_pos rfl
theorem zFt (U : Nat → Vec) {a d : Nat} (x : Vec) (h : d ≠ a) : upd U a x d = U d := if_neg h
def Stair (U : Nat → Vec) (n : Nat) : Prop := ∀ c, c < n → U c = vzero ∨ Lead (U c) c
open Classical in
noncomputable def stNZ (U : Nat → Vec) (n : Nat) : List Vec := ((List.range n).filter fun c => decide (U c ≠ vzero)).map U
theorem mem_stNZ {U : Nat → Vec} {n : Nat} {r : Vec} : r ∈ stNZ U n ↔ ∃ c, c < n ∧ U c ≠ vzero ∧ U c = r := by
  unfold stNZ
  simp only [List.mem_map, List.mem_filter, List.mem_range, decide_eq_true_eq, and_assoc]
theorem zFF (U : Nat → Vec) (n : Nat) : SpEq (stNZ U n) (stL U n) := .of
  (fun r hr => by obtain ⟨c, hc, _, e⟩ := mem_stNZ.1 hr; exact .mem (mem_stL.2 ⟨c, hc, e⟩))
  (fun r hr => by
    obtain ⟨c, hc, e⟩ := mem_stL.1 hr
    by_cases hz : U c = vzero
    · rw [← e, hz]; exact Sp.zero _
    · exact .mem (mem_stNZ.2 ⟨c, hc, hz, e⟩))
theorem zG9 {U : Nat → Vec} {n : Nat} (h : Stair U n) : Ech (stNZ U n) := by
  refine ⟨fun r hr => ?_, ?_⟩
  · obtain ⟨c, hc, hz, rfl⟩ := mem_stNZ.1 hr
    exact ⟨c, (h c hc).resolve_left hz⟩
  · unfold stNZ
    rw [List.pairwise_map]
    refine List.Pairwise.imp_of_mem ?_ (List.Pairwise.filter _ (List.pairwise_lt_range (n := n)))
    intro a b ha hb hab c h1 h2
    simp only [List.mem_filter, List.mem_range, decide_eq_true_eq] at ha hb
    have e1 := ((h a ha.1).resolve_left ha.2).unique h1
    have e2 := ((h b hb.1).resolve_left hb.2).unique h2
    omega
theorem zI6 {U : Nat → Vec} {n : Nat} (h : Stair U n) {x : Vec} {c : Nat} (hc : U c = vzero) (hx : Lead x c) : ¬ Sp (stL U n) x := fun hs => by
  refine zMM (zG9 h) hx (fun s hs hl => ?_) ((zFF U n x).2 hs)
  obtain ⟨d, hd, hz, rfl⟩ := mem_stNZ.1 hs
  have := ((h d hd).resolve_left hz).unique hl
  subst this
  exact hz hc
theorem zKD {U : Nat → Vec} {n : Nat} {x : Vec} {c : Nat} (hcn : c < n) (hc : U c = vzero) : SpEq (stL (upd U c x) n) (stL U n ++ [x]) := .of
  (fun r hr => by
    obtain ⟨d, hd, rfl⟩ := mem_stL.1 hr
    by_cases e : d = c
    · subst e; rw [zGQ]; exact .mem (by simp)
    · rw [zFt U x e]; exact .mem (List.mem_append.2 (.inl (mem_stL.2 ⟨d, hd, rfl⟩))))
  (fun r hr => by
    rcases List.mem_append.1 hr with hr | hr
    · obtain ⟨d, hd, rfl⟩ := mem_stL.1 hr
      by_cases e : d = c
      · subst e; rw [hc]; exact Sp.zero _
      · exact .mem (mem_stL.2 ⟨d, hd, zFt U x e⟩)
    · simp at hr
      subst hr
      exact .mem (mem_stL.2 ⟨c, hcn, zGQ U c r⟩))
end

section
open Go.RowKit Go.Extern.Stop Go.Stop Go.Extern
def inP (l : List Int) (c : Nat) : Bool := decide ((c : Int) ∈ l)
def packW (l : List Int) (k : Nat) : List Nat := (List.range k).map fun i => bitsDown (inP l) i 64
theorem zJe (n : Int) : ∃ k : Nat, sizeI n = (k : Int) ∧ k ≤ 64 := by
  unfold sizeI
  split
  · exact ⟨0, rfl, by omega⟩
  · exact ⟨((n + 63) / 64).toNat, by omega, by omega⟩
theorem zDF {α : Type} [DecidableEq α] (l : List α) (x : α) (h : l.Nodup) (hx : x ∉ l) : (l ++ [x]).Nodup := by
  unfold List.Nodup at *
  rw [List.pairwise_append]
  exact ⟨h, by simp, fun a ha b hb => by simp at hb; subst hb; intro e; exact hx (e ▸ ha)⟩
theorem zEH {l : List Int} {k : Nat} (hk : k < l.length) (h : l[k] ∈ l.take k) : ¬ l.Nodup := by
  intro hn
  have h2 : (l.take (k + 1)).Nodup := hn.sublist (List.take_sublist _ _)
  rw [List.take_succ_eq_append_getElem hk] at h2
  unfold List.Nodup at h2
  rw [List.pairwise_append] at h2
  exact h2.2.2 _ h _ (by simp) rfl
end

section
theorem bitW_nil : bitW [] = vzero := funext fun c => by unfold bitW vzero; simp
def kOf (n : Nat) : Nat := (n + 63) / 64
theorem zGG {n : Nat} (h : n ≤ 4096) : sizeI (n : Int) = (kOf n : Int) := by
  unfold sizeI kOf; rw [if_neg (by omega)]; omega
theorem zEI {n : Nat} (h : n ≤ 4096) : kOf n ≤ 64 := by unfold kOf; omega
def wholeB (n : Nat) (r : List Nat) : Bool := decide (r.length = kOf n) && (List.range (64 * r.length)).all fun c => decide (c < n) || !bitW r c
theorem zNi {n : Nat} {r : List Nat} : wholeB n r = true ↔ r.length = kOf n ∧ ∀ c, n ≤ c → bitW r c = false := by
  unfold wholeB
  rw [Bool.and_eq_true, decide_eq_true_eq, List.all_eq_true]
  constructor
  · rintro ⟨h1, h2⟩
    refine ⟨h1, fun c hc => ?_⟩
    by_cases hl : c < 64 * r.length
    · have := h2 c (List.mem_range.2 hl)
      simp only [Bool.or_eq_true, decide_eq_true_eq, Bool.not_eq_true'] at this
      exact this.resolve_left (by omega)
    · exact zBl _ _ (by omega)
  · rintro ⟨h1, h2⟩
    refine ⟨h1, fun c _ => ?_⟩
    by_cases hc : c < n
    · simp [hc]
    · simp [h2 c (by omega)]
theorem zHC {n : Nat} {r : List Nat} (h : r.length ≠ kOf n) : wholeB n r = false := by
  cases hb : wholeB n r with
  | false => rfl
  | true => exact absurd (zNi.1 hb).1 h
theorem zHy {n : Nat} {r : List Nat} (hw : Word r) (hl : r.length = kOf n) : wholeB n r = (decide (n % 64 = 0) || decide (r.getD (n / 64) 0 / 2 ^ (n % 64) = 0)) := by
  have hx : r.getD (n / 64) 0 < 2 ^ 64 := hw.getD _
  by_cases h0 : n % 64 = 0
  · have : wholeB n r = true := zNi.2 ⟨hl, fun c hc => zBl _ _ (by unfold kOf at hl; omega)⟩
    simp [this, h0]
  · by_cases h1 : r.getD (n / 64) 0 / 2 ^ (n % 64) = 0
    · have : wholeB n r = true := zNi.2 ⟨hl, fun c hc => by
        by_cases he : c / 64 = n / 64
        · unfold bitW
          rw [he]
          have hlt : r.getD (n / 64) 0 < 2 ^ (n % 64) := by
            apply Nat.lt_of_not_le
            intro hle
            have := Nat.div_pos hle (Nat.two_pow_pos _)
            omega
          exact Nat.testBit_lt_two_pow (Nat.lt_of_lt_of_le hlt (Nat.pow_le_pow_right (by decide) (by omega)))
        · exact zBl _ _ (by unfold kOf at hl; omega)⟩
      rw [this, decide_eq_true h1, Bool.or_true]
    · have : wholeB n r = false := by
        cases hb : wholeB n r with
        | false => rfl
        | true =>
          exfalso
          apply h1
          apply Nat.eq_of_testBit_eq
          intro j
          rw [Nat.testBit_div_two_pow, Nat.zero_testBit]
          by_cases hj : n % 64 + j < 64
          · have := (zNi.1 hb).2 (n + j) (by omega)
            unfold bitW at this
            rw [show (n + j) / 64 = n / 64 by omega, show (n + j) % 64 = n % 64 + j by omega] at this
            rw [Nat.add_comm]
            exact this
          · exact Nat.testBit_lt_two_pow (Nat.lt_of_lt_of_le hx (Nat.pow_le_pow_right (by decide) (by omega)))
      rw [this, decide_eq_false h0, decide_eq_false h1]; rfl
def vecs (L : List (List Nat)) : List Vec := L.map bitW
theorem zF9 (L : List (List Nat)) : (vecs L).length = L.length := by simp [vecs]
theorem zKg (L : List (List Nat)) (k : Nat) : (vecs L).getD k vzero = bitW (L.getD k []) := by
  unfold vecs
  simp only [List.getD_eq_getElem?_getD, List.getElem?_map]
  cases L[k]? with
  | none => exact bitW_nil.symm
  | some r => rfl
def bitB (b : List Bool) : Vec := fun c => b.getD c false
def truthsB (ws : List Nat) (n : Nat) : List Bool := (List.range n).map (bitW ws)
theorem zAL (ws : List Nat) (n : Nat) : (truthsB ws n).length = n := by simp [truthsB]
theorem zCj {α : Type} (f : Nat → α) (n k : Nat) (d : α) : ((List.range n).map f).getD k d = if k < n then f k else d := by
  simp only [List.getD_eq_getElem?_getD, List.getElem?_map]
  by_cases h : k < n
  · simp [h]
  · simp [h]
theorem zKr {b : List Bool} {c : Nat} (h : b.length ≤ c) : bitB b c = false := by
  unfold bitB; rw [List.getD_eq_getElem?_getD, List.getElem?_eq_none h]; rfl
end
end Go.Proofs.YtkfimdpcadbcpaaGreatDoor
