/- Package symbol: Sum, Xor, Zero. -/
import Derived.Test.YtibgddfnkfhlfaaDoorSyA
namespace Go.Proofs.YtibgddfnkfhlfaaDoor
open Go.RowKit Go.Extern.Stop Go.Stop Go.Extern

abbrev nameSum : ByteArray := ⟨#[115, 121, 109, 98, 111, 108, 46, 83, 117, 109]⟩
abbrev nameXor : ByteArray := ⟨#[115, 121, 109, 98, 111, 108, 46, 88, 111, 114]⟩
abbrev namePick : ByteArray := ⟨#[115, 121, 109, 98, 111, 108, 46, 80, 105, 99, 107]⟩
abbrev nameSplit : ByteArray := ⟨#[115, 121, 109, 98, 111, 108, 46, 83, 112, 108, 105, 116]⟩

theorem Sum_bad {w : World} (v : Value) (L : List (List Nat)) (n k : Int) (h : MatAt byteV w v L) (hn : I64 n) (hk : checkS L n = k) (hk0 : k ≠ 0) :
    Calls Tryd.prog 12 #[v, .int .i64 n] w fun e w' => ∃ E, e = .returned (.tuple #[.slice none 0 0, E]) ∧ ErrAns k nameSum w' E ∧ Below w.heap.size w w' := by
  have HM := Lib.hid h
  have HK := Lib.hid hk
  have HN := Lib.hid hn
  have HK0 := Lib.hid hk0
  have hb : (k != 0) = true := by simpa using hk0
  have hb2 : (k == 0) = false := by simpa using hk0
  obtain ⟨a, cap, rfl, -, -, -⟩ := h.opens
  clear h hk hn hk0
  go_enter Tryd.func12, Tryd.ntmps12
  go_wp2_with fail
  refine (wrong_any _ L n HM.out HN.out).mono ?_
  rintro e w1 ⟨rfl, rfl⟩
  rw [HK.out]
  go_wp2_with fail
  refine (New_ans nameSum k HK0.out _).mono ?_
  rintro e w1 ⟨E1, rfl, he1, hb1⟩
  have HE1 := Lib.hid he1
  have HB1 := Lib.hid hb1
  obtain ⟨u, x, rfl⟩ := he1.some HK0.out
  clear he1 hb1
  go_wp2
  go_ret2
  exact ⟨_, rfl, HE1.out, HB1.out⟩

theorem Sum_ok {w : World} (v : Value) (L : List (List Nat)) (m : Nat) (h : MatAt byteV w v L) (h1 : 1 ≤ m) (h2 : m ≤ 64) (hl : ∀ r ∈ L, r.length = m) (hw : ∀ r ∈ L, Octets r) :
    Calls Tryd.prog 12 #[v, .int .i64 (m : Int)] w fun e w' => ∃ v', e = .returned (.tuple #[v', .nilIface]) ∧ w'.ownsRow w.heap.size 5 1 v' m ((sumB m L).map byteV) ∧ Below w.heap.size w w' := by
  have HM := Lib.hid h
  have HK := Lib.hid (checkS_ok h1 h2 hl)
  have HL := Lib.hid hl
  have HW := Lib.hid hw
  obtain ⟨a, cap, rfl, -, -, -⟩ := h.opens
  clear h hl hw
  go_enter Tryd.func12, Tryd.ntmps12
  go_wp2_with fail
  refine (wrong_any _ L (m : Int) HM.out (by omega)).mono ?_
  rintro e w1 ⟨rfl, rfl⟩
  rw [HK.out]
  go_wp2_with fail
  refine (added_any _ L m HM.out HL.out HW.out (by omega)).mono ?_
  rintro e w1 ⟨v1, rfl, ho1, hb1⟩
  have HO1 := Lib.hid ho1
  have HB1 := Lib.hid hb1
  obtain ⟨ao, co, rfl, -, -⟩ := own_open ho1
  clear ho1 hb1
  go_wp2
  go_ret2
  exact ⟨_, rfl, HO1.out, HB1.out⟩

/-! ### Xor -/
theorem MatAt.lit {α : Type} {f : α → Value} {w : World} {vs : List Value} {L : List (List α)} (t : TypeId) (n : Nat) (hn : L.length = n) (hl : vs.length = n) (hm : n ≤ maxLen) (h : ∀ i, ListAt f w (vs.getD i nilS) (L.getD i [])) :
    MatAt f (w.alloc (.cells vs.toArray t)) (.slice (some ⟨w.heap.size, 0, none⟩) n n) L := by
  subst hn
  refine ⟨vs, ⟨_, L.length, by rw [hl], by omega, hm, fun _ => ⟨_, 0, rfl, fun j hj => ?_⟩⟩, hl, fun i => (h i).mono ((Below.refl _ _).alloc (Nat.le_refl _) _)⟩
  rw [Nat.zero_add, World.cell?_alloc_at _ _ _ _ (by simp)]
  simp

theorem pair_mat {w : World} {v1 v2 : Value} {xa xb : List Nat} (h1 : ListAt byteV w v1 xa) (h2 : ListAt byteV w v2 xb) :
    MatAt byteV (w.alloc (.cells #[v1, v2] 22)) (.slice (some ⟨w.heap.size, 0, none⟩) 2 2) [xa, xb] :=
  MatAt.lit (vs := [v1, v2]) 22 2 rfl rfl (by decide) fun i => by
    match i with
    | 0 => exact h1
    | 1 => exact h2
    | i + 2 => exact ListAt.nil _ _

theorem SXor_bad {w : World} (v1 v2 : Value) (xa xb : List Nat) (h1 : ListAt byteV w v1 xa) (h2 : ListAt byteV w v2 xb) (hne : xa.length ≠ xb.length) :
    Calls Tryd.prog 7 #[v1, v2] w fun e w' => ∃ E, e = .returned (.tuple #[.slice none 0 0, E]) ∧ ErrAns 2 nameXor w' E ∧ Below w.heap.size w w' := by
  have l1 := h1.len
  have l2 := h2.len
  obtain ⟨a1, cap1, rfl, -, -, -⟩ := h1
  obtain ⟨a2, cap2, rfl, -, -, -⟩ := h2
  have hb : ((xa.length : Int) == (xb.length : Int)) = false := by simp; omega
  have hb2 : ((xa.length : Int) != (xb.length : Int)) = true := by simp; omega
  clear hne
  generalize xa.length = na at *
  generalize xb.length = nb at *
  go_enter Tryd.func7, Tryd.ntmps7
  go_wp2_with fail
  refine (New_ans nameXor 2 (by decide) _).mono ?_
  rintro e w1 ⟨E1, rfl, he1, hb1⟩
  have HE1 := Lib.hid he1
  have HB1 := Lib.hid hb1
  obtain ⟨u, x, rfl⟩ := he1.some (by decide)
  clear he1 hb1
  go_wp2
  go_ret2
  exact ⟨_, rfl, HE1.out, HB1.out⟩

theorem SXor_ok {w : World} (v1 v2 : Value) (xa xb : List Nat) (n : Nat) (h1 : ListAt byteV w v1 xa) (h2 : ListAt byteV w v2 xb) (ha : Octets xa) (hb : Octets xb) (e1 : xa.length = n) (e2 : xb.length = n) (hn : n ≤ 281474976710656) :
    Calls Tryd.prog 7 #[v1, v2] w fun e w' => ∃ v', e = .returned (.tuple #[v', .nilIface]) ∧ w'.ownsRow w.heap.size 5 1 v' n ((xorW xa xb).map byteV) ∧ Below w.heap.size w w' := by
  have HM := Lib.hid (pair_mat h1 h2)
  have HL : Hid (∀ r ∈ [xa, xb], r.length = n) := Lib.hid (by simp [e1, e2])
  have HW : Hid (∀ r ∈ [xa, xb], Octets r) := Lib.hid (by
    intro r hr
    simp only [List.mem_cons, List.not_mem_nil, or_false] at hr
    rcases hr with rfl | rfl
    · exact ha
    · exact hb)
  have HB0 := Lib.hid ((Below.refl w.heap.size w).alloc (Nat.le_refl _) (.cells #[v1, v2] 22))
  have HS := Lib.hid (sumB_two e1 e2)
  obtain ⟨a1, cap1, rfl, -, -, -⟩ := h1.bytes n e1
  obtain ⟨a2, cap2, rfl, -, -, -⟩ := h2.bytes n e2
  clear h1 h2 ha hb e1 e2
  go_enter Tryd.func7, Tryd.ntmps7
  go_wp2_with fail
  refine (added_any _ [xa, xb] n HM.out HL.out HW.out hn).mono ?_
  rintro e w1 ⟨v', rfl, ho1, hb1⟩
  rw [HS.out] at ho1
  have HO1 := Lib.hid (ownsRow_base ho1 (b' := w.heap.size) (by simp))
  have HB1 := Lib.hid (HB0.out.trans (hb1.mono HB0.out.size))
  obtain ⟨ao, co, rfl, -, -⟩ := own_open ho1
  clear ho1 hb1
  go_wp2
  go_ret2
  exact ⟨_, rfl, HO1.out, HB1.out⟩

/-! ### Zero -/
def zeroB (l : List Nat) : Bool := l.all fun x => x == 0

theorem nonzero_any {w : World} (x : Nat) (b : Bool) (hb : (x != 0) = b) :
    Calls Tryd.prog 31 #[.int .u8 (x : Int)] w fun e w' => e = .returned (.bool b) ∧ w = w' := by
  have hb2 : ((x : Int) != 0) = b := by
    rw [← hb]
    by_cases h : x = 0
    · subst h; rfl
    · have h1 : (x != 0) = true := by simpa using h
      have h2 : ((x : Int) != 0) = true := by simp; omega
      rw [h1, h2]
  go_enter Tryd.func31, Tryd.ntmps31
  go_wp2
  go_ret
  exact ⟨rfl, rfl⟩

set_option maxRecDepth 1000000 in
theorem IndexFunc_any {w : World} (v : Value) (l : List Nat) (h : ListAt byteV w v l) :
    Calls Tryd.prog 38 #[v, .func (.func 31) #[] #[]] w fun e w' => ∃ i : Int, e = .returned (.int .i64 i) ∧ I64 i ∧ decide (0 ≤ i) = !zeroB l ∧ w = w' := by
  have hlen := h.len
  obtain ⟨a, cap, rfl, hcap, hcm, hcell⟩ := h.bytes l.length rfl
  have HC := Lib.hid hcell
  clear h hcell
  go_enter Tryd.func38, Tryd.ntmps38
  go_wp2
  go_loopw [8] (fun i wr => ∃ k : Nat, k ≤ l.length ∧ i = .int .i64 k ∧ (∀ j, j < k → l.getD j 0 = 0) ∧ w = wr) (fun i _ => l.length - (intOf i).toNat)
  case atStart => exact ⟨0, Nat.zero_le _, rfl, fun j hj => by omega, rfl⟩
  case round =>
    obtain ⟨k, hk, rfl, hz, rfl⟩ := hrel
    by_cases hlt : k < l.length
    · obtain ⟨b, off, rfl, hcc⟩ := HC.out (by omega)
      have hx := hcc k hlt
      have HT : Hid (l.getD k 0 = 0 → ∀ j, j < k + 1 → l.getD j 0 = 0) := Lib.hid fun h j hj => by
        by_cases e : j = k
        · rw [e]; exact h
        · exact hz j (by omega)
      have HF : Hid (l.getD k 0 ≠ 0 → decide ((0 : Int) ≤ (k : Int)) = !zeroB l) := Lib.hid fun h => by
        have : zeroB l = false := by
          unfold zeroB
          rw [List.all_eq_false]
          refine ⟨l[k], List.getElem_mem hlt, ?_⟩
          simpa [List.getD_eq_getElem?_getD, hlt] using h
        rw [this, decide_eq_true (by omega)]; rfl
      clear hcc hz
      generalize l.getD k 0 = x at *
      by_cases hx0 : x = 0
      · have hb : (x != 0) = false := by simp [hx0]
        have HT' := Lib.hid (HT.out hx0)
        clear HF HT hx0
        go_wp2_with fail
        refine (nonzero_any x false hb).mono ?_
        rintro e w1 ⟨rfl, rfl⟩
        go_wp2
        go_roundw
        case rel => exact ⟨k + 1, by omega, by go_num, HT'.out, trivial⟩
        case measure => simp [intOf]; omega
      · have hb : (x != 0) = true := by simpa using hx0
        have HF' := Lib.hid (HF.out hx0)
        clear HF HT hx0
        go_wp2_with fail
        refine (nonzero_any x true hb).mono ?_
        rintro e w1 ⟨rfl, rfl⟩
        go_wp2
        go_ret
        exact ⟨_, rfl, ⟨by omega, by omega⟩, HF'.out, rfl⟩
    · have hk' : k = l.length := by omega
      have HF : Hid (decide ((0 : Int) ≤ -1) = !zeroB l) := Lib.hid (by
        have : zeroB l = true := by
          unfold zeroB
          rw [List.all_eq_true]
          intro x hx
          obtain ⟨j, hj, rfl⟩ := List.getElem_of_mem hx
          have := hz j (by omega)
          simpa [List.getD_eq_getElem?_getD, hj] using this
        rw [this]; rfl)
      clear hz
      go_wp2
      go_ret
      exact ⟨_, rfl, ⟨by decide, by decide⟩, HF.out, rfl⟩

theorem Zero_any {w : World} (v : Value) (l : List Nat) (h : ListAt byteV w v l) :
    Calls Tryd.prog 20 #[v] w fun e w' => e = .returned (.bool (zeroB l)) ∧ w = w' := by
  have HL := Lib.hid h
  obtain ⟨a, cap, rfl, -, -, -⟩ := h
  have hmf : ∀ (fn : Fn) (first cap : Array Value) (w : World), (Instr.makeFunc fn first cap).run Tryd.prog w = .ok (.func fn first cap) w := fun _ _ _ _ => rfl
  have HC : Hid (Calls Tryd.prog 30 #[.slice a l.length cap, .func (.func 31) #[] #[]] w fun e w' => e = .returned (.bool (!zeroB l)) ∧ w = w') := by
    show Calls _ _ _ _ _
    go_enter Tryd.func30, Tryd.ntmps30
    go_wp2_with fail
    refine (IndexFunc_any _ l HL.out).mono ?_
    rintro e w1 ⟨i, rfl, hi, hd, rfl⟩
    have HD := Lib.hid hd
    clear hd
    go_wp2
    go_ret
    exact ⟨by rw [← HD.out]; rfl, rfl⟩
  go_enter Tryd.func20, Tryd.ntmps20
  go_wp2_with fail
  refine HC.out.mono ?_
  rintro e w1 ⟨rfl, rfl⟩
  go_wp2
  go_ret
  exact ⟨by simp, rfl⟩
end Go.Proofs.YtibgddfnkfhlfaaDoor
