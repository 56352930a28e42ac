import Derived.Test.YtmihpbdgilmdiaaWrGuess
import Derived.Test.YtmihpbdgilmdiaaCkLb
import Derived.Deep.AppendLies
import Derived.Deep.RegionLaw
import Derived.Test.YtmihpbdgilmdiaaWrGet

section
/- The landed package wire: told, the numbers with which bytes begin (layer 16). (Made by genwle.py.) -/
namespace Go.Proofs.Ytmihpbdgilmdiaa
open Go.RowKit Go.Extern.Stop Go.Stop Go.Extern

def wdV (n : Nat) : Value := .int .i64 (n : Int)
/-- where the i-th number begins -/
def offW (W : List Nat) (i : Nat) : Nat := (W.take i).sum
theorem offW_succ (W : List Nat) (i : Nat) (h : i < W.length) : offW W (i + 1) = offW W i + W.getD i 0 := by
  unfold offW
  rw [List.take_add_one, List.getElem?_eq_getElem h, List.sum_append, List.getD_eq_getElem?_getD, List.getElem?_eq_getElem h]
  simp
theorem offW_le (W : List Nat) {i j : Nat} (h : i ≤ j) : offW W i ≤ offW W j := by
  unfold offW
  have e : W.take j = W.take i ++ (W.take j).drop i := by
    have := (List.take_append_drop i (W.take j)).symm
    rwa [List.take_take, Nat.min_eq_left h] at this
  rw [e, List.sum_append]
  omega
/-- the numbers -/
def numsW (c : List Nat) (W : List Nat) (j : Nat) : List Nat := (List.range j).map fun i => numA c (offW W i) (W.getD i 0)
theorem numsW_succ (c W : List Nat) (j : Nat) : numsW c W (j + 1) = numsW c W j ++ [numA c (offW W j) (W.getD j 0)] := by
  unfold numsW
  rw [List.range_succ, List.map_append]
  rfl
theorem numsW_length (c W : List Nat) (j : Nat) : (numsW c W j).length = j := by simp [numsW]
theorem info_wd : (Try.prog.info? 3).map (fun i => (i.zero, i.size, i.bytes)) = some (some (.int .i64 0), 1, 8) := by kernel_rfl
theorem pow256_lt {x t : Nat} (h : x < 256 ^ t) (ht : t ≤ 5) : x < 1099511627776 :=
  Nat.lt_of_lt_of_le h (by have := Nat.pow_le_pow_right (n := 256) (by decide) ht; simpa using this)
/-- the bytes behind the first k, cut off a slice -/
theorem listAt_cut {w : World} {b off cap : Nat} {l : List Nat} (h : ListAt byteV w (.slice (some ⟨b, off, none⟩) l.length cap) l) (k : Nat) (hk : k ≤ l.length) (_ : cap ≠ k) : ListAt byteV w (.slice (some ⟨b, off + k, none⟩) (l.length - k) (cap - k)) (l.drop k) := by
  rcases Nat.lt_or_ge k l.length with h1 | h1
  · exact listAt_drop h k h1
  · have e : l.drop k = [] := List.drop_eq_nil_of_le h1
    obtain ⟨a, c, he, h2, h3, -⟩ := h
    injection he with e1 e2 e3
    subst e3
    rw [e]
    exact ⟨_, _, by rw [show l.length - k = 0 by omega]; rfl, Nat.zero_le _, by unfold maxLen at *; omega, fun hp => by simp at hp⟩

set_option linter.unusedSimpArgs false in
set_option linter.unusedVariables false in
set_option maxRecDepth 1000000 in
set_option maxHeartbeats 8000000 in
theorem wlTold_any {w : World} (v vw : Value) (c W : List Nat) (h : ListAt byteV w v c) (hw : ListAt wdV w vw W) (ho : Octets c) (hW : ∀ x ∈ W, 1 ≤ x ∧ x ≤ 5) (hWl : W.length ≤ 100) :
    Calls Try.prog 27 #[v, vw] w fun e w' => Below w.heap.size w w' ∧
      ((c.length < offW W W.length ∧ e = .returned (.tuple #[nilS, nilS])) ∨
       (offW W W.length ≤ c.length ∧ ∃ v1 v2, e = .returned (.tuple #[v1, v2]) ∧ w'.ownsRow w.heap.size 3 1 v1 W.length ((numsW c W W.length).map wdV) ∧ ∀ U, ListAt byteV U v c → ListAt byteV U v2 (c.drop (offW W W.length)))) := by
  obtain ⟨i0, hi0, hz0, hz1, hz2⟩ := info_parts info_wd
  have hcl := h.len
  obtain ⟨aw, cw, rfl, -, -, hcell⟩ := hw
  have HC := Lib.hid hcell
  have HV := Lib.hid h
  have HWB : Hid (∀ j, j < W.length → 1 ≤ W.getD j 0 ∧ W.getD j 0 ≤ 5) := Lib.hid fun j hj => by
    rw [List.getD_eq_getElem?_getD, List.getElem?_eq_getElem hj]
    exact hW _ (List.getElem_mem hj)
  have HOS : Hid (∀ j, j < W.length → offW W (j + 1) = offW W j + W.getD j 0) := Lib.hid (offW_succ W)
  have HOL : Hid (∀ j, j ≤ W.length → offW W j ≤ offW W W.length) := Lib.hid fun j hj => offW_le W hj
  have HNS : Hid (∀ j, numsW c W (j + 1) = numsW c W j ++ [numA c (offW W j) (W.getD j 0)]) := Lib.hid (numsW_succ c W)
  have HNL : Hid (∀ j, (numsW c W j).length = j) := Lib.hid (numsW_length c W)
  have HST := Lib.hid (numA_step c)
  have HLT : Hid (∀ a t, t ≤ 5 → numA c a t < 1099511627776) := Lib.hid fun a t ht => pow256_lt (numA_lt c ho a t) ht
  have HOB : Hid (∀ j, c.getD j 0 < 256) := Lib.hid fun j => ho.getD j
  obtain ⟨av, cv, rfl, -, -, -⟩ := h
  clear hcell ho hW
  go_enter Try.func27, Try.ntmps27
  go_wp2_with fail
  go_loopw [0, 6, 14] (fun b l i wr => ∃ j : Nat, j ≤ W.length ∧ i = .int .i64 (j : Int) ∧ offW W j ≤ c.length ∧ (∃ ab cb, b = .slice ab (c.length - offW W j) cb) ∧ (∀ U, ListAt byteV U (.slice av c.length cv) c → ListAt byteV U b (c.drop (offW W j))) ∧ wr.ownsRow w.heap.size 3 1 l j ((numsW c W j).map wdV) ∧ Below w.heap.size w wr) (fun _ _ i _ => W.length - (intOf i).toNat)
  case atStart => exact ⟨0, by omega, rfl, Nat.zero_le _, ⟨av, cv, rfl⟩, fun U hU => hU, World.ownsRow_nil _ _ _ _, Below.refl _ _⟩
  case round =>
    obtain ⟨j, hj, rfl, hoc, ⟨ab, cb, rfl⟩, hlb, hown, hbel⟩ := hrel
    have HB := Lib.hid hbel
    have HO := Lib.hid hown
    have HLBU := Lib.hid hlb
    have HLB := Lib.hid (hlb w HV.out)
    by_cases hlt : j < W.length
    · have d1 : decide ((j : Int) < (W.length : Int)) = true := decide_eq_true (by omega)
      obtain ⟨bw, ow, rfl, hcc⟩ := HC.out (by omega)
      have hx := (hbel.cell (p := ⟨bw, ow + j, none⟩) (World.block_lt_of_cell? w _ (hcc j hlt))).trans (hcc j hlt)
      have hxe : W[j] = W.getD j 0 := by simp [List.getD_eq_getElem?_getD, hlt]
      rw [hxe] at hx
      have hw1 : wr.cell? ⟨bw, ow + j, none⟩ = some (.int .i64 ((W.getD j 0 : Nat) : Int)) := hx
      have hos := HOS.out j hlt
      have hol := HOL.out (j + 1) hlt
      obtain ⟨k1, k5⟩ := HWB.out j hlt
      have HN1 := Lib.hid (HNS.out j)
      have HSJ := Lib.hid (HST.out (offW W j))
      have HLJ := Lib.hid (HLT.out (offW W j))
      have hnl := HNL.out j
      have hdl : (c.drop (offW W j)).length = c.length - offW W j := List.length_drop
      have HGD : Hid (∀ t, (c.drop (offW W j)).getD t 0 = c.getD (offW W j + t) 0) := Lib.hid fun t => by simp [List.getD_eq_getElem?_getD, List.getElem?_drop]
      have HDD : Hid (∀ k, (c.drop (offW W j)).drop k = c.drop (offW W j + k)) := Lib.hid fun k => List.drop_drop
      have HN0 : Hid (numA c (offW W j) 0 = 0) := Lib.hid rfl
      clear hcc hx hxe hown hbel hlb HC HOS HOL HWB HNS HST HLT HNL
      obtain ⟨Nj, hNj⟩ : ∃ N, N = numsW c W j := ⟨_, rfl⟩
      rw [← hNj] at HO HN1 hnl
      have HNJ := Lib.hid hNj
      clear hNj
      generalize hk : W.getD j 0 = k at *
      have HOS2 := Lib.hid hos
      obtain ⟨hcb1, hcbc⟩ : c.length - offW W j ≤ cb ∧ (0 < c.length - offW W j → ∃ bb ob, ab = some ⟨bb, ob, none⟩ ∧ ∀ t (ht : t < (c.drop (offW W j)).length), w.cell? ⟨bb, ob + t, none⟩ = some (byteV (c.drop (offW W j))[t])) := by
        obtain ⟨a', c', e, h1, h2, h3⟩ := HLB.out
        injection e with e1 e2 e3
        subst e1 e3
        rw [hdl] at h1
        exact ⟨h1, fun hp => h3 (by rw [hdl]; exact hp)⟩
      by_cases hsh : c.length - offW W j < k
      · have d2 : decide (((c.length - offW W j : Nat) : Int) < (k : Int)) = true := decide_eq_true (by omega)
        have HSH : Hid (c.length < offW W W.length) := Lib.hid (by omega)
        clear hos hol hcbc
        generalize c.length - offW W j = m at *
        go_wp2
        go_ret2
        exact ⟨HB.out, .inl ⟨HSH.out, rfl⟩⟩
      · obtain ⟨bb, ob, rfl, hcb⟩ := hcbc (by omega)
        have d2 : decide (((c.length - offW W j : Nat) : Int) < (k : Int)) = false := decide_eq_false (by omega)
        have HNX : Hid (offW W (j + 1) ≤ c.length) := Lib.hid (by omega)
        have HCB : Hid (∀ t, t < k → wr.cell? ⟨bb, ob + t, none⟩ = some (.int .u8 ((c.getD (offW W j + t) 0 : Nat) : Int))) := Lib.hid fun t ht => by
          have h1 := hcb t (by rw [hdl]; omega)
          rw [← HGD.out t]
          rw [HB.out.cell (p := ⟨bb, ob + t, none⟩) (World.block_lt_of_cell? w _ h1), h1, List.getD_eq_getElem?_getD, List.getElem?_eq_getElem (by rw [hdl]; omega)]
          rfl
        have hkc : k ≤ cb := by omega
        have HLBF : Hid (∀ U, ListAt byteV U (.slice av c.length cv) c → ListAt byteV U (.slice (some ⟨bb, ob, none⟩) (c.drop (offW W j)).length cb) (c.drop (offW W j))) := Lib.hid (by rw [hdl]; exact HLBU.out)
        have HREST : Hid (cb ≠ k → ∀ U, ListAt byteV U (.slice av c.length cv) c → ListAt byteV U (.slice (some ⟨bb, ob + k, none⟩) (c.length - offW W j - k) (cb - k)) (c.drop (offW W (j + 1)))) := Lib.hid fun hne U hU => by
          have := listAt_cut (HLBF.out U hU) k (by rw [hdl]; omega) hne
          rw [hdl, HDD.out, ← HOS2.out] at this
          exact this
        have HRESZ : Hid (cb = k → ∀ U, ListAt byteV U (.slice av c.length cv) c → ListAt byteV U (.slice (some ⟨bb, ob, none⟩) 0 0) (c.drop (offW W (j + 1)))) := Lib.hid fun he U hU => by
          rw [List.drop_eq_nil_of_le (by omega)]
          exact ⟨_, _, rfl, Nat.le_refl _, Nat.zero_le _, fun hp => by simp at hp⟩
        have hkm : k ≤ c.length - offW W j := by omega
        have HMQ : Hid (c.length - offW W (j + 1) = c.length - offW W j - k) := Lib.hid (by rw [hos]; omega)
        clear hos hol hcb hcbc HLB HLBU HLBF HDD HGD hsh
        generalize hm : c.length - offW W j = m at *
        generalize hq : offW W j = q at *
        have hci0 : (0 : Int) ≤ (k : Int) := by omega
        have hci1 : (k : Int) ≤ (cb : Int) := by omega
        have hci2 : (k : Int) ≤ (m : Int) := by omega
        obtain ⟨wo, hwo⟩ : ∃ wo, wo = wr := ⟨_, rfl⟩
        subst hwo
        clear hk hm hq
        go_wp2_with fail
        go_loopw [9, 26] (fun n i wr' => ∃ t : Nat, t ≤ k ∧ i = .int .i64 (t : Int) ∧ n = .int .i64 ((numA c q t : Nat) : Int) ∧ wr' = wo) (fun _ i _ => k - (intOf i).toNat)
        case atStart => exact ⟨0, by omega, rfl, by rw [HN0.out]; rfl, rfl⟩
        case round =>
          obtain ⟨t, ht, rfl, rfl, rfl⟩ := hrel
          by_cases htl : t < k
          · have d3 : decide ((t : Int) < (k : Int)) = true := decide_eq_true (by omega)
            have hcell := HCB.out t htl
            have hy := HOB.out (q + t)
            have HS1 := Lib.hid (HSJ.out t)
            have hn := HLJ.out t (by omega)
            have hn1 := HLJ.out (t + 1) (by omega)
            have HQL : Hid (q + t < c.length) := Lib.hid (by have := HNX.out; have := HOS2.out; omega)
            generalize c.getD (q + t) 0 = y at *
            generalize numA c q t = n at *
            generalize hz : numA c q (t + 1) = z at *
            have hzz : z = 256 * n + y := HS1.out HQL.out
            have hsh8 : IntKind.i64.wrap ((n : Int) * 256) = ((256 * n : Nat) : Int) := by rw [IntWalk.i64_in _ (by omega)]; omega
            have hsh82 : IntKind.i64.wrap ((n : Int) * 2 ^ 8) = ((256 * n : Nat) : Int) := hsh8
            have hadd : IntKind.i64.wrap (((256 * n : Nat) : Int) + (y : Int)) = (z : Int) := by rw [IntWalk.i64_in _ (by omega)]; omega
            have hadd2 : IntKind.i64.wrap (256 * (n : Int) + (y : Int)) = (z : Int) := by rw [IntWalk.i64_in _ (by omega)]; omega
            have hcv : IntKind.i64.wrap (y : Int) = (y : Int) := IntWalk.i64_in _ (by omega)
            have HZ := Lib.hid hz
            clear hz HS1
            go_wp2
            go_roundw
            case rel => exact ⟨t + 1, htl, by go_num, by rw [HZ.out]; exact congrArg (Value.int IntKind.i64) (by omega), trivial⟩
            case measure => simp [intOf]; omega
          · obtain rfl : t = k := by omega
            have d3 : decide ((t : Int) < (t : Int)) = false := decide_eq_false (by omega)
            have hn := HLJ.out t (by omega)
            generalize numA c q t = n at *
            go_upto_region 13 with fail
            obtain ⟨al, cl, hle, -, -⟩ := own_open HO.out
            subst hle
            have HBD := Lib.hid ((HB.out.alloc HB.out.size (.cells #[.int .i64 (n : Int)] 3)).drew)
            have HOD := Lib.hid ((HO.out.alloc (.cells #[.int .i64 (n : Int)] 3)).drew)
            have HSZ := Lib.hid HBD.out.size
            have hj63 : j ≤ 100 := by omega
            by_cases hcb : cb = t
            · subst hcb
              have HRZ := Lib.hid (HRESZ.out rfl)
              clear HREST HRESZ
              go_region_law (first
                | (refine step_append_lies _ rfl (.tmp 36) (.tmp 38) 61 rfl w.heap.size 3 i0 (.int .i64 0) 1 8 Try.underlying61 hi0 hz0 hz1 hz2 rfl (by decide) (.slice al j cl) j (Nj.map wdV) (by simp [Act.eval]) HOD.out ⟨wr.heap.size, 0, none⟩ 1 1 [.int .i64 (n : Int)] (by simp [Act.eval]) rfl (fun j u hu => cell_one_new wr _ _ j u hu) (fun x hx => by simp at hx; subst hx; rfl) (by omega) (by unfold maxLen; omega) (by omega) HSZ.out _ rfl ?_; intro g2 q2 w7 hown1 hgrow1 _ _; have HB7 := Lib.hid (HBD.out.grown hgrow1 HSZ.out (fun k hk => (HOD.out.lt k hk).1)); have HO7 := Lib.hid hown1; clear hown1 hgrow1))
              all_goals
                go_wp2
                go_roundw
                case rel => exact ⟨j + 1, hlt, by go_num, HNX.out, ⟨_, _, by rw [HMQ.out]; exact congrArg (fun z => Value.slice _ z _) (by omega)⟩, HRZ.out, by rw [HN1.out, List.map_append]; exact HO7.out, HB7.out⟩
                case measure => simp [intOf]; omega
            · have HRZ := Lib.hid (HREST.out hcb)
              have hcb2 : ¬ ((cb : Int) = (t : Int)) := by omega
              clear HREST HRESZ
              go_region_law (first
                | (refine step_append_lies _ rfl (.tmp 36) (.tmp 38) 61 rfl w.heap.size 3 i0 (.int .i64 0) 1 8 Try.underlying61 hi0 hz0 hz1 hz2 rfl (by decide) (.slice al j cl) j (Nj.map wdV) (by simp [Act.eval]) HOD.out ⟨wr.heap.size, 0, none⟩ 1 1 [.int .i64 (n : Int)] (by simp [Act.eval]) rfl (fun j u hu => cell_one_new wr _ _ j u hu) (fun x hx => by simp at hx; subst hx; rfl) (by omega) (by unfold maxLen; omega) (by omega) HSZ.out _ rfl ?_; intro g2 q2 w7 hown1 hgrow1 _ _; have HB7 := Lib.hid (HBD.out.grown hgrow1 HSZ.out (fun k hk => (HOD.out.lt k hk).1)); have HO7 := Lib.hid hown1; clear hown1 hgrow1))
              all_goals
                go_wp2
                go_roundw
                case rel => exact ⟨j + 1, hlt, by go_num, HNX.out, ⟨_, _, by rw [HMQ.out]⟩, HRZ.out, by rw [HN1.out, List.map_append]; exact HO7.out, HB7.out⟩
                case measure => simp [intOf]; omega
    · obtain rfl : j = W.length := by omega
      have d1 : decide ((W.length : Int) < (W.length : Int)) = false := decide_eq_false (by omega)
      have HL1 := HLBU
      have HOC := Lib.hid hoc
      clear hown hbel hlb hoc
      go_wp2
      go_ret2
      exact ⟨HB.out, .inr ⟨HOC.out, _, _, rfl, HO.out, HL1.out⟩⟩
end Go.Proofs.Ytmihpbdgilmdiaa
end

section
/- Package wire: the packet that bytes tell, read field by field, and back. Pure mathematics. -/
namespace Go.Proofs.Ytmihpbdgilmdiaa

theorem beN_valN : ∀ (k : Nat) (l : List Nat), l.length = k → Octets l → beN k (valN l) = l
  | 0, l, h, _ => by rw [List.eq_nil_of_length_eq_zero h]; rfl
  | k + 1, l, h, ho => by
    have hne : l ≠ [] := by intro e; rw [e] at h; cases h
    have e := List.dropLast_concat_getLast hne
    have h2 : l.getLast hne < 256 := ho _ (List.getLast_mem hne)
    have ih := beN_valN k l.dropLast (by rw [List.length_dropLast]; omega) fun x hx => ho x (List.dropLast_subset l hx)
    have hv : valN l = 256 * valN l.dropLast + l.getLast hne := by
      rw [← valN_snoc, e]
    rw [beN, hv, show (256 * valN l.dropLast + l.getLast hne) / 256 = valN l.dropLast by omega, show (256 * valN l.dropLast + l.getLast hne) % 256 = l.getLast hne by omega, ih, e]
theorem beN_numA {l : List Nat} (ho : Octets l) (a k : Nat) (h : a + k ≤ l.length) : beN k (numA l a k) = (l.drop a).take k := by
  unfold numA
  exact beN_valN k _ (by rw [List.length_take, List.length_drop]; omega) fun x hx => ho x (List.mem_of_mem_drop (List.mem_of_mem_take hx))
theorem seg_drop (l : List Nat) (a k : Nat) : (l.drop a).take k ++ l.drop (a + k) = l.drop a := by
  rw [← List.drop_drop, List.take_append_drop]
theorem be_drop {l : List Nat} (ho : Octets l) (a k b : Nat) (h : a + k ≤ l.length) (hb : a + k = b) : beN k (numA l a k) ++ l.drop b = l.drop a := by
  rw [beN_numA ho a k h, ← hb, seg_drop]
theorem numA_drop (l : List Nat) (b a k : Nat) : numA (l.drop b) a k = numA l (b + a) k := by
  unfold numA; rw [List.drop_drop]

/-- the packet that a body tells -/
def readP (l : List Nat) : Pkt :=
  if l.length < 9 then pkt0
  else if numA l 0 1 = 1 then (if l.length < 17 then pkt0 else gsD l 1)
  else if numA l 0 1 = 2 then (if l.length = 24 then gsA l 2 else pkt0)
  else pkt0
theorem pkt0_wrong : ckN pkt0 ≠ 0 := fun h => by
  have := (ckN_zero.1 h).1.k1
  exact absurd this (by decide)
theorem kind_numA {l : List Nat} {q : Pkt} (h : IsP l q) : numA l 0 1 = q.kind.toNat := by
  have hb := bodyP_kind h.1
  rw [h.2.2] at hb
  cases l with
  | nil => cases hb
  | cons x l =>
    have : x = q.kind.toNat := by simpa using hb
    rw [← this]
    show 256 * 0 + x = x
    omega
theorem readP_is {l : List Nat} {q : Pkt} (h : IsP l q) : readP l = q := by
  have hk := kind_numA h
  have hl := h.len
  have hg := h.guess
  have k1 := h.1.k1; have k2 := h.1.k2
  unfold readP
  rw [if_neg (by omega)]
  by_cases hq : q.kind = 1
  · rw [if_pos (by rw [hk, hq]; rfl), if_neg (by omega)]
    unfold gsP at hg
    rw [if_pos hq, hq] at hg
    exact hg
  · have hq2 : q.kind = 2 := by omega
    have hlen : l.length = 24 := by
      rw [← h.2.2]
      unfold bodyP
      rw [if_neg hq, bodyA_length]
    rw [if_neg (by rw [hk, hq2]; decide), if_pos (by rw [hk, hq2]; rfl), if_pos hlen]
    unfold gsP at hg
    rw [if_neg hq, hq2] at hg
    exact hg

theorem gsD_back {l : List Nat} (ho : Octets l) (hl : 17 ≤ l.length) (hk : numA l 0 1 = 1) (hr : RangedP (gsD l 1)) : bodyP (gsD l 1) = l := by
  obtain ⟨⟨y1, y2⟩, -⟩ := hr.d rfl
  have hs : (numA l 9 1 % 128 : Nat) ≤ 8 := by
    have : ((numA l 9 1 % 128 : Nat) : Int) - 1 ≤ 7 := y2
    omega
  have h9 : numA l 9 1 < 256 := numA_lt l ho 9 1
  have e9 : ((gsD l 1).sync + 1).toNat + (if (gsD l 1).burst then 128 else 0) = numA l 9 1 := by
    show (((numA l 9 1 % 128 : Nat) : Int) - 1 + 1).toNat + (if decide (128 ≤ numA l 9 1) = true then 128 else 0) = numA l 9 1
    by_cases h : 128 ≤ numA l 9 1
    · rw [if_pos (decide_eq_true h)]; omega
    · rw [if_neg (by simpa using h)]; omega
  unfold bodyP
  rw [if_pos (show (gsD l 1).kind = 1 from rfl)]
  unfold bodyD headB
  rw [e9]
  show beN 1 1 ++ (beN 2 (numA l 1 2) ++ (beN 1 (numA l 3 1) ++ beN 5 (numA l 4 5))) ++ (beN 1 (numA l 9 1) ++ (beN 2 (numA l 10 2) ++ (beN 2 (numA l 12 2) ++ (beN 1 (numA l 14 1) ++ (beN 2 (numA l 15 2) ++ l.drop 17))))) = l
  rw [be_drop ho 15 2 17 (by omega) rfl, be_drop ho 14 1 15 (by omega) rfl, be_drop ho 12 2 14 (by omega) rfl, be_drop ho 10 2 12 (by omega) rfl, be_drop ho 9 1 10 (by omega) rfl]
  simp only [List.append_assoc]
  rw [be_drop ho 4 5 9 (by omega) rfl, be_drop ho 3 1 4 (by omega) rfl, be_drop ho 1 2 3 (by omega) rfl]
  have := be_drop ho 0 1 1 (by omega) rfl
  rw [hk] at this
  exact this
theorem gsA_back {l : List Nat} (ho : Octets l) (hl : l.length = 24) (hk : numA l 0 1 = 2) : bodyP (gsA l 2) = l := by
  have hd : l.drop 24 = [] := List.drop_eq_nil_of_le (by omega)
  have h22 : beN 2 (numA l 22 2) = l.drop 22 := by
    have := be_drop ho 22 2 24 (by omega) rfl
    rwa [hd, List.append_nil] at this
  have e18 : ((gsA l 2).esis - 1).toNat = numA l 18 2 := by
    show (((numA l 18 2 : Nat) : Int) + 1 - 1).toNat = numA l 18 2
    omega
  unfold bodyP
  rw [if_neg (show ¬ (gsA l 2).kind = 1 from fun h => absurd (show (2 : Int) = 1 from h) (by decide))]
  unfold bodyA headB
  rw [e18]
  show beN 1 2 ++ (beN 2 (numA l 1 2) ++ (beN 1 (numA l 3 1) ++ beN 5 (numA l 4 5))) ++ (beN 4 (numA l 9 4) ++ (beN 1 (numA l 13 1) ++ (beN 1 (numA l 14 1) ++ (beN 1 (numA l 15 1) ++ (beN 1 (numA l 16 1) ++ (beN 1 (numA l 17 1) ++ (beN 2 (numA l 18 2) ++ (beN 2 (numA l 20 2) ++ beN 2 (numA l 22 2))))))))) = l
  rw [h22, be_drop ho 20 2 22 (by omega) rfl, be_drop ho 18 2 20 (by omega) rfl, be_drop ho 17 1 18 (by omega) rfl, be_drop ho 16 1 17 (by omega) rfl, be_drop ho 15 1 16 (by omega) rfl, be_drop ho 14 1 15 (by omega) rfl, be_drop ho 13 1 14 (by omega) rfl, be_drop ho 9 4 13 (by omega) rfl]
  simp only [List.append_assoc]
  rw [be_drop ho 4 5 9 (by omega) rfl, be_drop ho 3 1 4 (by omega) rfl, be_drop ho 1 2 3 (by omega) rfl]
  have := be_drop ho 0 1 1 (by omega) rfl
  rw [hk] at this
  exact this
theorem readP_back {l : List Nat} (ho : Octets l) (h : ckN (readP l) = 0) : IsP l (readP l) := by
  obtain ⟨hr, hf⟩ := ckN_zero.1 h
  refine ⟨hr, hf, ?_⟩
  unfold readP at h hr ⊢
  split at h
  · exact absurd h pkt0_wrong
  · rename_i h9
    rw [if_neg h9] at hr ⊢
    split at h
    · rename_i hk
      rw [if_pos hk] at hr ⊢
      split at h
      · exact absurd h pkt0_wrong
      · rename_i h17
        rw [if_neg h17] at hr ⊢
        exact gsD_back ho (by omega) hk hr
    · rename_i hk
      rw [if_neg hk] at hr ⊢
      split at h
      · rename_i hk2
        rw [if_pos hk2] at hr ⊢
        split at h
        · rename_i h24
          rw [if_pos h24] at hr ⊢
          exact gsA_back ho h24 hk2
        · exact absurd h pkt0_wrong
      · exact absurd h pkt0_wrong
theorem readP_none {l : List Nat} (h : ckN (readP l) ≠ 0) : ∀ q, ¬ IsP l q := fun q hq => by
  rw [readP_is hq] at h
  exact h (ckN_zero.2 ⟨hq.1, hq.2.1⟩)
end Go.Proofs.Ytmihpbdgilmdiaa
end
