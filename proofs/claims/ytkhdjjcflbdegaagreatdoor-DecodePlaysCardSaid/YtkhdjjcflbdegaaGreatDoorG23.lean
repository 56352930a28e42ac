import Derived.Test.YtkhdjjcflbdegaaGreatDoorG22
import Derived.Test.YtkhdjjcflbdegaaGreatDoorG07
import Derived.Test.YtkhdjjcflbdegaaGreatDoorG09
import Derived.Test.YtkhdjjcflbdegaaGreatDoorG15
import Derived.Deep.RegionWith
import Derived.Deep.LoopGhost
import Derived.WalkMore

section
/- Package symbol: Sum, Xor, Zero. -/
namespace Go.Proofs.YtkhdjjcflbdegaaGreatDoor
open Go.RowKit Go.Extern.Stop Go.Stop Go.Extern

abbrev nameSum : ByteArray := ⟨#[115, 121, 109, 98, 111, 108, 46, 83, 117, 109]⟩
abbrev nameXor : ByteArray := ⟨#[115, 121, 109, 98, 111, 108, 46, 88, 111, 114]⟩
abbrev namePick : ByteArray := ⟨#[115, 121, 109, 98, 111, 108, 46, 80, 105, 99, 107]⟩
abbrev nameSplit : ByteArray := ⟨#[115, 121, 109, 98, 111, 108, 46, 83, 112, 108, 105, 116]⟩

/-! ### Xor -/
theorem MatAt.lit {α : Type} {f : α → Value} {w : World} {vs : List Value} {L : List (List α)} (t : TypeId) (n : Nat) (hn : L.length = n) (hl : vs.length = n) (hm : n ≤ maxLen) (h : ∀ i, ListAt f w (vs.getD i nilS) (L.getD i [])) :
    MatAt f (w.alloc (.cells vs.toArray t)) (.slice (some ⟨w.heap.size, 0, none⟩) n n) L := by
  subst hn
  refine ⟨vs, ⟨_, L.length, by rw [hl], by omega, hm, fun _ => ⟨_, 0, rfl, fun j hj => ?_⟩⟩, hl, fun i => (h i).mono ((Below.refl _ _).alloc (Nat.le_refl _) _)⟩
  rw [Nat.zero_add, World.cell?_alloc_at _ _ _ _ (by simp)]
  simp

theorem pair_mat {w : World} {v1 v2 : Value} {xa xb : List Nat} (h1 : ListAt byteV w v1 xa) (h2 : ListAt byteV w v2 xb) :
    MatAt byteV (w.alloc (.cells #[v1, v2] 37)) (.slice (some ⟨w.heap.size, 0, none⟩) 2 2) [xa, xb] :=
  MatAt.lit (vs := [v1, v2]) 37 2 rfl rfl (by decide) fun i => by
    match i with
    | 0 => exact h1
    | 1 => exact h2
    | i + 2 => exact ListAt.nil _ _

/-! ### Zero -/
def zeroB (l : List Nat) : Bool := l.all fun x => x == 0

theorem nonzero_any {w : World} (x : Nat) (b : Bool) (hb : (x != 0) = b) :
    Calls Tryz.prog 106 #[.int .u8 (x : Int)] w fun e w' => e = .returned (.bool b) ∧ w = w' := by
  have hb2 : ((x : Int) != 0) = b := by
    rw [← hb]
    by_cases h : x = 0
    · subst h; rfl
    · have h1 : (x != 0) = true := by simpa using h
      have h2 : ((x : Int) != 0) = true := by simp; omega
      rw [h1, h2]
  go_enter Tryz.func106, Tryz.ntmps106
  go_wp2
  go_ret
  exact ⟨rfl, rfl⟩

set_option maxRecDepth 1000000 in
theorem IndexFunc_any {w : World} (v : Value) (l : List Nat) (h : ListAt byteV w v l) :
    Calls Tryz.prog 129 #[v, .func (.func 106) #[] #[]] w fun e w' => ∃ i : Int, e = .returned (.int .i64 i) ∧ I64 i ∧ decide (0 ≤ i) = !zeroB l ∧ w = w' := by
  have hlen := h.len
  obtain ⟨a, cap, rfl, hcap, hcm, hcell⟩ := h.bytes l.length rfl
  have HC := Lib.hid hcell
  clear h hcell
  go_enter Tryz.func129, Tryz.ntmps129
  go_wp2
  go_loopw [8] (fun i wr => ∃ k : Nat, k ≤ l.length ∧ i = .int .i64 k ∧ (∀ j, j < k → l.getD j 0 = 0) ∧ w = wr) (fun i _ => l.length - (intOf i).toNat)
  case atStart => exact ⟨0, Nat.zero_le _, rfl, fun j hj => by omega, rfl⟩
  case round =>
    obtain ⟨k, hk, rfl, hz, rfl⟩ := hrel
    by_cases hlt : k < l.length
    · obtain ⟨b, off, rfl, hcc⟩ := HC.out (by omega)
      have hx := hcc k hlt
      have HT : Hid (l.getD k 0 = 0 → ∀ j, j < k + 1 → l.getD j 0 = 0) := Lib.hid fun h j hj => by
        by_cases e : j = k
        · rw [e]; exact h
        · exact hz j (by omega)
      have HF : Hid (l.getD k 0 ≠ 0 → decide ((0 : Int) ≤ (k : Int)) = !zeroB l) := Lib.hid fun h => by
        have : zeroB l = false := by
          unfold zeroB
          rw [List.all_eq_false]
          refine ⟨l[k], List.getElem_mem hlt, ?_⟩
          simpa [List.getD_eq_getElem?_getD, hlt] using h
        rw [this, decide_eq_true (by omega)]; rfl
      clear hcc hz
      generalize l.getD k 0 = x at *
      by_cases hx0 : x = 0
      · have hb : (x != 0) = false := by simp [hx0]
        have HT' := Lib.hid (HT.out hx0)
        clear HF HT hx0
        go_wp2_with fail
        refine (nonzero_any x false hb).mono ?_
        rintro e w1 ⟨rfl, rfl⟩
        go_wp2
        go_roundw
        case rel => exact ⟨k + 1, by omega, by go_num, HT'.out, trivial⟩
        case measure => simp [intOf]; omega
      · have hb : (x != 0) = true := by simpa using hx0
        have HF' := Lib.hid (HF.out hx0)
        clear HF HT hx0
        go_wp2_with fail
        refine (nonzero_any x true hb).mono ?_
        rintro e w1 ⟨rfl, rfl⟩
        go_wp2
        go_ret
        exact ⟨_, rfl, ⟨by omega, by omega⟩, HF'.out, rfl⟩
    · have hk' : k = l.length := by omega
      have HF : Hid (decide ((0 : Int) ≤ -1) = !zeroB l) := Lib.hid (by
        have : zeroB l = true := by
          unfold zeroB
          rw [List.all_eq_true]
          intro x hx
          obtain ⟨j, hj, rfl⟩ := List.getElem_of_mem hx
          have := hz j (by omega)
          simpa [List.getD_eq_getElem?_getD, hj] using this
        rw [this]; rfl)
      clear hz
      go_wp2
      go_ret
      exact ⟨_, rfl, ⟨by decide, by decide⟩, HF.out, rfl⟩

theorem Zero_any {w : World} (v : Value) (l : List Nat) (h : ListAt byteV w v l) :
    Calls Tryz.prog 69 #[v] w fun e w' => e = .returned (.bool (zeroB l)) ∧ w = w' := by
  have HL := Lib.hid h
  obtain ⟨a, cap, rfl, -, -, -⟩ := h
  have hmf : ∀ (fn : Fn) (first cap : Array Value) (w : World), (Instr.makeFunc fn first cap).run Tryz.prog w = .ok (.func fn first cap) w := fun _ _ _ _ => rfl
  have HC : Hid (Calls Tryz.prog 105 #[.slice a l.length cap, .func (.func 106) #[] #[]] w fun e w' => e = .returned (.bool (!zeroB l)) ∧ w = w') := by
    show Calls _ _ _ _ _
    go_enter Tryz.func105, Tryz.ntmps105
    go_wp2_with fail
    refine (IndexFunc_any _ l HL.out).mono ?_
    rintro e w1 ⟨i, rfl, hi, hd, rfl⟩
    have HD := Lib.hid hd
    clear hd
    go_wp2
    go_ret
    exact ⟨by rw [← HD.out]; rfl, rfl⟩
  go_enter Tryz.func69, Tryz.ntmps69
  go_wp2_with fail
  refine HC.out.mono ?_
  rintro e w1 ⟨rfl, rfl⟩
  go_wp2
  go_ret
  exact ⟨by simp, rfl⟩
end Go.Proofs.YtkhdjjcflbdegaaGreatDoor
end

section
/- Least columns by words, no program. -/
namespace Go.Proofs.YtkhdjjcflbdegaaGreatDoor
open Go.RowKit Go.Extern.Stop Go.Stop Go.Extern

/-- The words ahead of the least column's are 0. -/
theorem lead_words {y : List Nat} (hy : Word y) {c i : Nat} (h : ∀ d, d < c → bitW y d = false) (hi : 64 * i ≤ c) : ∀ j, j < i → y.getD j 0 = 0 := fun j hj => by
  apply Nat.eq_of_testBit_eq
  intro b
  rw [Nat.zero_testBit]
  by_cases hb : b < 64
  · rw [← bitW_at y j b hb]; exact h _ (by omega)
  · exact Nat.testBit_lt_two_pow (Nat.lt_of_lt_of_le (hy.getD j) (Nat.pow_le_pow_right (n := 2) (by decide) (show 64 ≤ b by omega)))
theorem ctz_more {x z : Nat} (hx : x < 18446744073709551616) (hz : z < 64) (h : ∀ b, b ≤ z → x.testBit b = false) : z < Lib.ctz 64 x := by
  by_cases h0 : x = 0
  · subst h0; unfold Lib.ctz; rw [if_pos rfl]; exact hz
  · obtain ⟨h1, h2, h3⟩ := testBit_ctz x h0 hx
    apply Nat.lt_of_not_le
    intro hle
    rw [h _ hle] at h2
    cases h2
theorem ctz_le (x : Nat) (hx : x < 18446744073709551616) : Lib.ctz 64 x ≤ 64 := by
  by_cases h0 : x = 0
  · subst h0; unfold Lib.ctz; rw [if_pos rfl]; exact Nat.le_refl _
  · exact Nat.le_of_lt (testBit_ctz x h0 hx).1
/-- The least column lies in the first word that is not 0. -/
theorem lead_at {x : List Nat} {i : Nat} (hw : Word x) (hz : ∀ j, j < i → x.getD j 0 = 0) (h0 : x.getD i 0 ≠ 0) : Lead (bitW x) (i * 64 + Lib.ctz 64 (x.getD i 0)) := by
  obtain ⟨h1, h2, h3⟩ := testBit_ctz _ h0 (hw.getD i)
  refine ⟨by rw [bitW_at _ _ _ h1]; exact h2, fun d hd => ?_⟩
  by_cases hdi : d / 64 < i
  · unfold bitW; rw [hz _ hdi]; simp
  · have e : d = i * 64 + (d - i * 64) := by omega
    rw [e, bitW_at _ _ _ (by omega)]
    exact h3 _ (by omega)
theorem zero_of_words {x : List Nat} (hz : ∀ j, j < x.length → x.getD j 0 = 0) : bitW x = vzero := by
  funext c
  unfold bitW vzero
  by_cases h : c / 64 < x.length
  · rw [hz _ h]; simp
  · rw [List.getD_eq_getElem?_getD, List.getElem?_eq_none (by omega)]; simp

theorem step_word {y s : List Nat} {k : Nat} (hy : Word y) (hs : Word s) (hl : y.length = s.length) (h0 : y.getD k 0 ≠ 0) (hlead : Lead (bitW s) (k * 64 + Lib.ctz 64 (y.getD k 0))) :
    Lib.ctz 64 (y.getD k 0) < Lib.ctz 64 ((xorW y s).getD k 0) := by
  obtain ⟨h1, h2, h3⟩ := testBit_ctz _ h0 (hy.getD k)
  rw [xorW_getD hl]
  refine ctz_more (Nat.xor_lt_two_pow (n := 64) (hy.getD k) (hs.getD k)) h1 fun b hb => ?_
  rw [Nat.testBit_xor]
  by_cases e : b = Lib.ctz 64 (y.getD k 0)
  · have := hlead.1
    rw [bitW_at _ _ _ h1] at this
    rw [e, h2, this]; rfl
  · have hb' : b < Lib.ctz 64 (y.getD k 0) := by omega
    have := hlead.2 (k * 64 + b) (by omega)
    rw [bitW_at _ _ _ (by omega)] at this
    rw [h3 b hb', this]; rfl
theorem xor_zero_words {y s : List Nat} {k : Nat} (hl : y.length = s.length) (h1 : ∀ j, j < k → y.getD j 0 = 0) (h2 : ∀ j, j < k → s.getD j 0 = 0) : ∀ j, j < k → (xorW y s).getD j 0 = 0 := fun j hj => by
  rw [xorW_getD hl, h1 j hj, h2 j hj]; rfl

end Go.Proofs.YtkhdjjcflbdegaaGreatDoor
end

section
/- Package elim: (*System).down. -/
namespace Go.Proofs.YtkhdjjcflbdegaaGreatDoor
open Go.RowKit Go.Extern.Stop Go.Stop Go.Extern

/-- What is left of an equation on its way down. -/
structure DownOk (x y r s : List Nat) (n size : Nat) (f : Nat → Option Eqn) : Prop where
  ok : EqOk n size (x, y)
  span : Sp (stL (uF f n) n) (vadd (longV x y n) (longV r s n))

theorem DownOk.add {x y r s : List Nat} {n size c : Nat} {f : Nat → Option Eqn} {q : Eqn} (h : DownOk x y r s n size f) (hc : c < n) (hf : f c = some q) (hq : EqOk n size q) : DownOk (xorW x q.1) (xorW y q.2) r s n size f := by
  obtain ⟨o1, o2, o3, o4, o5⟩ := h.ok
  obtain ⟨q1, q2, q3, q4, q5⟩ := hq
  simp only at o1 o2 o3 o4 o5
  have e1 : x.length = q.1.length := by rw [o1, q1]
  have e2 : y.length = q.2.length := by rw [o4, q4]
  refine ⟨⟨by simp only; rw [xorW_length e1, o1], o2.xor q2, fun d hd => by simp only; rw [bitW_xor e1, o3 d hd, q3 d hd]; rfl, by simp only; rw [xorW_length e2, o4], fun z hz => ?_⟩, ?_⟩
  · obtain ⟨i, hi, rfl⟩ := List.getElem_of_mem hz
    have := xorW_getD e2 i
    rw [List.getD_eq_getElem?_getD, List.getElem?_eq_getElem hi] at this
    simp only [Option.getD_some] at this
    rw [this]
    exact Nat.xor_lt_two_pow (n := 8) (o5.getD i) (q5.getD i)
  · rw [← longV_add e1 e2, vadd_right]
    exact h.span.add (.mem (mem_stL.2 ⟨c, hc, uF_some hf⟩))

/-- An equation of the call's own, and the box it lies in. -/
structure DownS (w0 wr : World) (X g1 c1 g2 c2 K size : Nat) (x y : List Nat) : Prop where
  own1 : wr.ownsRow w0.heap.size 163 1 (.slice (some ⟨g1, 0, none⟩) K c1) K (x.map wordV)
  own2 : wr.ownsRow w0.heap.size 5 1 (.slice (some ⟨g2, 0, none⟩) size c2) size (y.map byteV)
  bel : Below w0.heap.size w0 wr
  box0 : wr.cell? ⟨X, 0, none⟩ = some (.slice (some ⟨g1, 0, none⟩) K c1)
  box1 : wr.cell? ⟨X, 1, none⟩ = some (.slice (some ⟨g2, 0, none⟩) size c2)

theorem own_nonnil {w : World} {B n : Nat} {e : TypeId} {v : Value} {xs : List Value} (h : w.ownsRow B e 1 v n xs) (hp : 0 < n) : ∃ g cap, v = .slice (some ⟨g, 0, none⟩) n cap := by
  obtain ⟨a, cap, rfl, -, ha⟩ := own_open h
  obtain ⟨g, rfl⟩ := ha hp
  exact ⟨g, cap, rfl⟩

set_option maxRecDepth 1000000 in
set_option maxHeartbeats 4000000 in
theorem down_any {w0 w : World} (b kb n size : Nat) (f : Nat → Option Eqn) (rv sv : Nat → Value) (cl : Bool) (g1 c1 g2 c2 : Nat) (r s : List Nat) (hS : SysM w0 b kb n size f rv sv cl) (hT : Tab w0) (hb : Below w0.heap.size w0 w)
    (hr : w.ownsRow w0.heap.size 163 1 (.slice (some ⟨g1, 0, none⟩) (kOf n) c1) (kOf n) (r.map wordV)) (hs : w.ownsRow w0.heap.size 5 1 (.slice (some ⟨g2, 0, none⟩) size c2) size (s.map byteV)) (hok : EqOk n size (r, s)) :
    Calls Tryz.prog 68 #[sysP b, .agg #[.slice (some ⟨g1, 0, none⟩) (kOf n) c1, .slice (some ⟨g2, 0, none⟩) size c2]] w fun e w' => ∃ x y, DownOk x y r s n size f ∧
      w'.ownsRow w0.heap.size 163 1 (.slice (some ⟨g1, 0, none⟩) (kOf n) c1) (kOf n) (x.map wordV) ∧ w'.ownsRow w0.heap.size 5 1 (.slice (some ⟨g2, 0, none⟩) size c2) size (y.map byteV) ∧ Below w0.heap.size w0 w' ∧
      (∀ k, k < w.heap.size → k ≠ g1 → k ≠ g2 → w'.heap[k]? = w.heap[k]?) ∧
      ((e = .returned (.int .i64 (-1)) ∧ bitW x = vzero) ∨ ∃ c : Nat, e = .returned (.int .i64 (c : Int)) ∧ c < n ∧ f c = none ∧ Lead (bitW x) c) := by
  obtain ⟨hn1, hn2, hs1, hs2⟩ := hS.num
  have hK64 : kOf n ≤ 64 := kOf_le hn2
  have hl1 := hr.lt g1 rfl
  have hl2 := hs.lt g2 rfl
  have HK0 : Hid (∃ K, K = kOf n) := Lib.hid ⟨_, rfl⟩
  obtain ⟨K, hKK⟩ := HK0.out
  rw [← hKK] at hr hK64 ⊢
  have HKK := Lib.hid hKK
  have hbz : Below w.heap.size w (w.alloc (.cells #[.slice (some ⟨g1, 0, none⟩) K c1, .slice (some ⟨g2, 0, none⟩) size c2] 120)) := (Below.refl _ _).alloc (Nat.le_refl _) _
  have hz0 : (w.alloc (.cells #[.slice (some ⟨g1, 0, none⟩) K c1, .slice (some ⟨g2, 0, none⟩) size c2] 120)).heap[w.heap.size]? = some (.cells #[.slice (some ⟨g1, 0, none⟩) K c1, .slice (some ⟨g2, 0, none⟩) size c2] 120 (0, 0)) := heap_alloc_new w _
  have HD0 : Hid (DownS w0 (w.alloc (.cells #[.slice (some ⟨g1, 0, none⟩) K c1, .slice (some ⟨g2, 0, none⟩) size c2] 120)) w.heap.size g1 c1 g2 c2 K size r s) := Lib.hid ⟨owns_kept hr hbz, owns_kept hs hbz, hb.trans (hbz.mono hb.size), cell_of_heap hz0 rfl, cell_of_heap hz0 rfl⟩
  have HF0 : Hid (∀ k, k < w.heap.size → k ≠ g1 → k ≠ g2 → (w.alloc (.cells #[.slice (some ⟨g1, 0, none⟩) K c1, .slice (some ⟨g2, 0, none⟩) size c2] 120)).heap[k]? = w.heap[k]?) := Lib.hid fun k hk _ _ => hbz.block k hk
  have HOK0 : Hid (DownOk r s r s n size f) := Lib.hid ⟨hok, by rw [vadd_self]; exact Sp.zero _⟩
  have hX1 : ¬ w.heap.size = g1 := by omega
  have hX2 : ¬ w.heap.size = g2 := by omega
  have hwz : ∃ wz, wz = (w.alloc (.cells #[.slice (some ⟨g1, 0, none⟩) K c1, .slice (some ⟨g2, 0, none⟩) size c2] 120)) := ⟨_, rfl⟩
  obtain ⟨wz, hwz⟩ := hwz
  rw [← hwz] at HD0 HF0
  have HWZ := Lib.hid hwz
  have HSZ : Hid (w.heap.size < wz.heap.size) := Lib.hid (by rw [hwz, World.size_alloc]; omega)
  have HST := Lib.hid hS
  have HT := Lib.hid hT
  clear hbz hz0 hwz hKK hl1 hl2 hr hs hb hok hS hT HK0
  go_enter Tryz.func68, Tryz.ntmps68
  go_wp2_with fail
  rw [← HWZ.out]
  have hbx0 := HD0.out.box0
  go_step3
  go_wp2_with fail
  go_step3
  go_wp2_with fail
  go_loopg [5, 11] K (fun gk lz i wr => ∃ k : Nat, k + gk = K ∧ lz = .int .i64 (-1) ∧ i = .int .i64 k ∧ (∃ x y, DownOk x y r s n size f ∧ (∀ j, j < k → x.getD j 0 = 0) ∧ DownS w0 wr w.heap.size g1 c1 g2 c2 K size x y) ∧ (∀ k, k < w.heap.size → k ≠ g1 → k ≠ g2 → wr.heap[k]? = w.heap[k]?) ∧ w.heap.size < wr.heap.size)
  case atStart => exact ⟨0, by omega, rfl, rfl, ⟨r, s, HOK0.out, fun j hj => by omega, HD0.out⟩, HF0.out, HSZ.out⟩
  case round =>
    clear HOK0 HD0 HF0 HWZ hbx0
    obtain ⟨k, hk, rfl, rfl, ⟨x, y, hx, hxz, hds⟩, hfr, hszr⟩ := hrel
    cases gk with
    | zero =>
      have hkK : k = K := by omega
      have HX := Lib.hid hx
      have HZ : Hid (bitW x = vzero) := Lib.hid (zero_of_words (by rw [show x.length = K from hx.ok.1.trans HKK.out.symm, ← hkK]; exact hxz))
      have HD := Lib.hid hds
      have HF := Lib.hid hfr
      have hlt : ¬ (k : Int) < (K : Int) := by omega
      clear hx hxz hds hfr
      go_wp2_with fail
      try rw [Exit.noGoto_ret]
      go_ret
      exact ⟨x, y, HX.out, HD.out.own1, HD.out.own2, HD.out.bel, HF.out, .inl ⟨rfl, HZ.out⟩⟩
    | succ go =>
      have hlt : k < K := by omega
      have HX := Lib.hid hx
      have HXZ := Lib.hid hxz
      have HD := Lib.hid hds
      have HF := Lib.hid hfr
      clear hx hxz hds hfr
      go_wp2_with fail
      go_loopg [5, 7] 64 (fun gk lz _ wq => lz = .int .i64 (-1) ∧ (∃ x y, DownOk x y r s n size f ∧ (∀ j, j < k → x.getD j 0 = 0) ∧ DownS w0 wq w.heap.size g1 c1 g2 c2 K size x y ∧ 64 - Lib.ctz 64 (x.getD k 0) ≤ gk) ∧ (∀ k, k < w.heap.size → k ≠ g1 → k ≠ g2 → wq.heap[k]? = w.heap[k]?) ∧ w.heap.size < wq.heap.size)
      case atStart => exact ⟨rfl, ⟨x, y, HX.out, HXZ.out, HD.out, by omega⟩, HF.out, hszr⟩
      case round =>
        clear HX HXZ HD HF hszr
        obtain ⟨rfl, ⟨z, y, hz, hzz, hds, hgk⟩, hfr, hszr⟩ := hrel
        have hzl : z.length = K := hz.ok.1.trans HKK.out.symm
        have hzw : Word z := hz.ok.2.1
        have hxc : wr.cell? ⟨g1, k, none⟩ = some (.int .u64 ((z.getD k 0 : Nat) : Int)) := by
          rw [hds.own1.cellAt k (by omega)]
          have : k < z.length := by omega
          simp [this, wordV]
        have hbx0 := hds.box0
        have hbx1 := hds.box1
        have hwlt := hzw.getD k
        have HY := Lib.hid hz
        have HYZ := Lib.hid hzz
        have HD := Lib.hid hds
        have HF := Lib.hid hfr
        have HGK := Lib.hid hgk
        by_cases h0 : z.getD k 0 = 0
        · have HYZ2 : Hid (∀ j, j < k + 1 → z.getD j 0 = 0) := Lib.hid fun j hj => by
            by_cases e : j = k
            · subst e; exact h0
            · exact HYZ.out j (by omega)
          rw [h0] at hxc
          clear hz hzz hds hgk hfr hzl hzw hwlt h0
          go_wp2_with fail
          go_roundg go
          case measure => omega
          case rel => exact ⟨k + 1, by omega, rfl, by go_num, ⟨z, y, HY.out, HYZ2.out, HD.out⟩, HF.out, hszr⟩
        · have hlead := lead_at hzw hzz h0
          have hcn2 : k * 64 + Lib.ctz 64 (z.getD k 0) < n := by
            apply Nat.lt_of_not_le
            intro hle
            have := hz.ok.2.2.1 _ hle
            simp only at this
            rw [hlead.1] at this
            cases this
          have hz64 := (testBit_ctz _ h0 hwlt).1
          have hx0 : (((z.getD k 0 : Nat) : Int) != 0) = true := by simp only [bne_iff_ne, ne_eq]; omega
          have hst := HST.out.mono hds.bel
          obtain ⟨-, -, hb2, -, -⟩ := hst.cells
          obtain ⟨hk0, hk1⟩ := hst.kcell _ hcn2
          have hpl := HST.out.place _ hcn2
          have hci : (k : Int) * 64 + ((Lib.ctz 64 (z.getD k 0) : Nat) : Int) < (n : Int) := by omega
          have HW := Lib.hid hwlt
          have HTW : Hid (Tab wr) := Lib.hid (HT.out.mono hds.bel)
          cases had : f (k * 64 + Lib.ctz 64 (z.getD k 0)) with
          | none =>
            have HEND : Hid (∃ c, c = k * 64 + Lib.ctz 64 (z.getD k 0) ∧ c < n ∧ f c = none ∧ Lead (bitW z) c) := Lib.hid ⟨_, rfl, hcn2, had, hlead⟩
            rw [had] at hpl
            obtain ⟨hr1, hr2⟩ := hpl
            rw [hr1] at hk0
            rw [hr2] at hk1
            have hq : (binOp .eql 79 (.slice none 0 0) (.slice none 0 0)).run Tryz.prog wr = .ok (.bool true) wr := Lib.run_eql_slice_nil wr 79 163 none 0 0 0 0 Tryz.underlying79
            clear hz hzz hds hgk hfr hzl hzw hwlt h0 hlead had hst hr1 hr2
            generalize z.getD k 0 = X at *
            go_wp2_with fail
            refine (Tz64_any X HW.out _ HTW.out).mono ?_
            rintro e w2 ⟨rfl, rfl⟩
            generalize Lib.ctz 64 X = t at *
            go_wp2_with fail
            try rw [Exit.noGoto_ret]
            go_ret
            obtain ⟨c, hc, hc2, hc3, hc4⟩ := HEND.out
            refine ⟨z, y, HY.out, HD.out.own1, HD.out.own2, HD.out.bel, HF.out, .inr ⟨c, ?_, hc2, hc3, hc4⟩⟩
            rw [hc]
            go_num
          | some q =>
            obtain ⟨g3, rfl⟩ : ∃ g3, gk = g3 + 1 := ⟨gk - 1, by omega⟩
            rw [had] at hpl
            obtain ⟨hr1, hr2, hqk, hqlead⟩ := hpl
            have hq1l : q.1.length = K := hqk.1.trans HKK.out.symm
            have hzq : z.length = q.1.length := by rw [hzl, hq1l]
            have HS1 := Lib.hid (step_word hzw hqk.2.1 hzq h0 hqlead)
            have hzs := lead_words hqk.2.1 hqlead.2 (show 64 * k ≤ k * 64 + Lib.ctz 64 (z.getD k 0) by omega)
            have HS2 := Lib.hid (xor_zero_words hzq hzz hzs)
            have HS3 := Lib.hid (hz.add hcn2 had hqk)
            have HLA := Lib.hid (ListAt.of_owns (f := wordV) hr1)
            have HLB := Lib.hid (ListAt.of_owns (f := byteV) hr2)
            obtain ⟨ga, ca, ea⟩ := own_nonnil hr1 (by rw [← HKK.out]; omega)
            obtain ⟨gb, cb, eb⟩ := own_nonnil hr2 (by omega)
            rw [← HKK.out] at ea
            rw [ea] at hk0 HLA
            rw [eb] at hk1 HLB
            have hbd : Below wr.heap.size wr wr.drew := (Below.refl _ _).drew
            have HADD : Hid (Calls Tryz.prog 104 #[.agg #[.slice (some ⟨g1, 0, none⟩) K c1, .slice (some ⟨g2, 0, none⟩) size c2], .agg #[.slice (some ⟨ga, 0, none⟩) K ca, .slice (some ⟨gb, 0, none⟩) size cb]] wr.drew fun e w' => e = .returned (.tuple #[]) ∧
              w'.ownsRow w0.heap.size 163 1 (.slice (some ⟨g1, 0, none⟩) K c1) K ((xorW z q.1).map wordV) ∧ w'.ownsRow w0.heap.size 5 1 (.slice (some ⟨g2, 0, none⟩) size c2) size ((xorW y q.2).map byteV) ∧ Below w0.heap.size w0 w' ∧ (∀ k, k < wr.drew.heap.size → k ≠ g1 → k ≠ g2 → w'.heap[k]? = wr.drew.heap[k]?)) := Lib.hid
              (eqAdd_any g1 c1 g2 c2 K size z y q.1 q.2 _ _ hds.bel.drew (owns_kept hds.own1 hbd) (owns_kept hds.own2 hbd) HLA.out HLB.out hzl hz.ok.2.2.2.1 hq1l hqk.2.2.2.1 hzw hz.ok.2.2.2.2 hqk.2.1 hqk.2.2.2.2 (by omega) (by omega))
            have hq : (binOp .eql 79 (.slice (some ⟨ga, 0, none⟩) K ca) (.slice none 0 0)).run Tryz.prog wr = .ok (.bool false) wr := Lib.run_eql_slice_nil wr 79 163 (some ⟨ga, 0, none⟩) K ca 0 0 Tryz.underlying79
            have HDN : Hid (∀ w3, w3.ownsRow w0.heap.size 163 1 (.slice (some ⟨g1, 0, none⟩) K c1) K ((xorW z q.1).map wordV) → w3.ownsRow w0.heap.size 5 1 (.slice (some ⟨g2, 0, none⟩) size c2) size ((xorW y q.2).map byteV) → Below w0.heap.size w0 w3 → (∀ k, k < wr.drew.heap.size → k ≠ g1 → k ≠ g2 → w3.heap[k]? = wr.drew.heap[k]?) →
              DownS w0 w3 w.heap.size g1 c1 g2 c2 K size (xorW z q.1) (xorW y q.2) ∧ (∀ k, k < w.heap.size → k ≠ g1 → k ≠ g2 → w3.heap[k]? = w.heap[k]?) ∧ w.heap.size < w3.heap.size) := Lib.hid fun w3 k1 k2 k3 k4 => by
              have hXe : w3.heap[w.heap.size]? = wr.heap[w.heap.size]? := k4 _ hszr hX1 hX2
              refine ⟨⟨k1, k2, k3, (World.cell?_of_block (w := wr) (a := ⟨w.heap.size, 0, none⟩) hXe).trans hbx0, (World.cell?_of_block (w := wr) (a := ⟨w.heap.size, 1, none⟩) hXe).trans hbx1⟩, fun k hk n1 n2 => (k4 k (show k < wr.heap.size by omega) n1 n2).trans (HF.out k hk n1 n2), ?_⟩
              have := World.block_lt_of_cell? w3 _ ((World.cell?_of_block (w := wr) (a := ⟨w.heap.size, 0, none⟩) hXe).trans hbx0)
              exact this
            clear hz hzz hds hgk hfr hzl hzw hwlt h0 hlead had hst hr1 hr2 hqk hqlead hq1l hzq hzs ea eb hbd HLA HLB
            generalize xorW z q.1 = z2 at *
            generalize xorW y q.2 = y2 at *
            generalize z.getD k 0 = X at *
            go_wp2_with fail
            refine (Tz64_any X HW.out _ HTW.out).mono ?_
            rintro e w2 ⟨rfl, rfl⟩
            generalize Lib.ctz 64 X = t at *
            go_wp2_with fail
            go_region_with (go_at_call 104; refine HADD.out.mono ?_; rintro e w3 ⟨rfl, k1, k2, k3, k4⟩; obtain ⟨hd3, hf3, hs3⟩ := HDN.out w3 k1 k2 k3 k4; have HD3 := Lib.hid hd3; have HF3 := Lib.hid hf3; clear k1 k2 k3 k4 hd3 hf3)
            all_goals
              go_wp2
              go_roundg g3
              case measure => omega
              case rel => exact ⟨rfl, ⟨z2, y2, HS3.out, HS2.out, HD3.out, by have := HS1.out; have := HGK.out; omega⟩, HF3.out, hs3⟩
end Go.Proofs.YtkhdjjcflbdegaaGreatDoor
end

section
/- Package elim: (*System).Add. -/
namespace Go.Proofs.YtkhdjjcflbdegaaGreatDoor
open Go.RowKit Go.Extern.Stop Go.Stop Go.Extern

def nameElAdd : ByteArray := ⟨#[101, 108, 105, 109, 46, 65, 100, 100]⟩

section
variable {w : World} {b kb n size : Nat} {f : Nat → Option Eqn} {rv sv : Nat → Value}

theorem addr_ne {b b' j j' : Nat} (h : b ≠ b' ∨ j ≠ j') : (⟨b, j, none⟩ : Addr) ≠ ⟨b', j', none⟩ := fun e => by
  injection e with e1 e2
  rcases h with h | h
  · exact h e1
  · exact h e2

def updV (rv : Nat → Value) (c : Nat) (v : Value) : Nat → Value := fun d => if d = c then v else rv d

/-- One more is kept. -/
theorem SysM.put (h : SysM w b kb n size f rv sv false) {c : Nat} {q : Eqn} {r1 s1 : Value} (hc : c < n) (hf : f c = none) (h1 : OwnRow wordV 163 w r1 (kOf n) q.1) (h2 : OwnRow byteV 5 w s1 size q.2) (hq : EqOk n size q) (hl : Lead (bitW q.1) c) :
    SysM (((w.setCell ⟨kb, c * 2, none⟩ r1).setCell ⟨kb, c * 2 + 1, none⟩ s1).setCell ⟨b, 3, none⟩ (.int .i64 ((cntF f n : Int) + 1))) b kb n size (putF f c q) (updV rv c r1) (updV sv c s1) false := by
  have hne := h.ne
  obtain ⟨cur, hk⟩ := h.kobj
  have k1 := heap_setCell_at (j := c * 2) (u := r1) hk
  have k2 := heap_setCell_at (j := c * 2 + 1) (u := s1) k1
  have k3 := (Below.heap_setCell ((w.setCell ⟨kb, c * 2, none⟩ r1).setCell ⟨kb, c * 2 + 1, none⟩ s1) ⟨b, 3, none⟩ (.int .i64 ((cntF f n : Int) + 1)) kb (fun e => hne e.symm)).trans k2
  have o1 := (Below.heap_setCell w ⟨kb, c * 2, none⟩ r1 b hne).trans h.obj
  have o2 := (Below.heap_setCell (w.setCell ⟨kb, c * 2, none⟩ r1) ⟨kb, c * 2 + 1, none⟩ s1 b hne).trans o1
  have o3 := heap_setCell_at (j := 3) (u := .int .i64 ((cntF f n : Int) + 1)) o2
  have tr : ∀ (e : TypeId) (v : Value) (k : Nat) (xs : List Value), e = 163 ∨ e = 5 → w.ownsRow 0 e 1 v k xs → (((w.setCell ⟨kb, c * 2, none⟩ r1).setCell ⟨kb, c * 2 + 1, none⟩ s1).setCell ⟨b, 3, none⟩ (.int .i64 ((cntF f n : Int) + 1))).ownsRow 0 e 1 v k xs := fun e v k xs he ho =>
    own_set (own_set (own_set ho hk (by rcases he with rfl | rfl <;> decide) _ _) k1 (by rcases he with rfl | rfl <;> decide) _ _) o2 (by rcases he with rfl | rfl <;> decide) _ _
  refine ⟨?_, ⟨_, k3⟩, fun d hd => ?_, fun d hd => ?_, h.num⟩
  · rw [cntF_put hf hc]
    exact o3
  · obtain ⟨g1, g2⟩ := h.kcell d hd
    obtain ⟨e1, e2⟩ := h.kcell c hc
    rw [World.cell?_setCell_other (h := addr_ne (.inl hne)), World.cell?_setCell_other (h := addr_ne (.inl hne))]
    unfold updV
    by_cases e : d = c
    · subst e
      rw [if_pos rfl, if_pos rfl]
      exact ⟨by rw [World.cell?_setCell_other (h := addr_ne (.inr (by omega)))]; exact World.cell?_setCell_same _ _ _ e1, World.cell?_setCell_same _ _ _ (by rw [World.cell?_setCell_other (h := addr_ne (.inr (by omega)))]; exact e2)⟩
    · rw [if_neg e, if_neg e]
      refine ⟨?_, ?_⟩ <;> rw [World.cell?_setCell_other (h := addr_ne (.inr (by omega))), World.cell?_setCell_other (h := addr_ne (.inr (by omega)))]
      · exact g1
      · exact g2
  · unfold updV putF
    by_cases e : d = c
    · subst e
      rw [if_pos rfl, if_pos rfl, if_pos rfl]
      exact ⟨tr _ _ _ _ (.inl rfl) h1, tr _ _ _ _ (.inr rfl) h2, hq, hl⟩
    · rw [if_neg e, if_neg e, if_neg e]
      have hp := h.place d hd
      cases hfd : f d with
      | none => rw [hfd] at hp; exact hp
      | some p =>
        rw [hfd] at hp
        exact ⟨tr _ _ _ _ (.inl rfl) hp.1, tr _ _ _ _ (.inr rfl) hp.2.1, hp.2.2⟩

/-- It has clashed. -/
theorem SysM.clash (h : SysM w b kb n size f rv sv false) : SysM (w.setCell ⟨b, 4, none⟩ (.bool true)) b kb n size f rv sv true := by
  have hne := h.ne
  obtain ⟨cur, hk⟩ := h.kobj
  have k3 := (Below.heap_setCell w ⟨b, 4, none⟩ (.bool true) kb (fun e => hne e.symm)).trans hk
  have o3 := heap_setCell_at (j := 4) (u := .bool true) h.obj
  refine ⟨o3, ⟨_, k3⟩, fun d hd => ?_, fun d hd => ?_, h.num⟩
  · obtain ⟨g1, g2⟩ := h.kcell d hd
    rw [World.cell?_setCell_other (h := addr_ne (.inl hne)), World.cell?_setCell_other (h := addr_ne (.inl hne))]
    exact ⟨g1, g2⟩
  · have hp := h.place d hd
    cases hfd : f d with
    | none => rw [hfd] at hp; exact hp
    | some p =>
      rw [hfd] at hp
      exact ⟨own_set hp.1 h.obj (by decide) _ _, own_set hp.2.1 h.obj (by decide) _ _, hp.2.2⟩
end

theorem elAdd_nil {w : World} (v1 v2 : Value) : Calls Tryz.prog 35 #[nilP, v1, v2] w fun e w' => ∃ E, e = .returned (.tuple #[.int .i64 0, E]) ∧ ErrAns 7 nameElAdd w' E ∧ Below w.heap.size w w' := by
  go_enter Tryz.func35, Tryz.ntmps35
  go_wp2_with fail
  refine over_nil.mono ?_
  rintro e w1 ⟨rfl, rfl⟩
  go_wp2_with fail
  refine (New_ans nameElAdd 7 (by decide) _).mono ?_
  rintro e w1 ⟨E1, rfl, he1, hb1⟩
  have HE1 := Lib.hid he1
  have HB1 := Lib.hid hb1
  obtain ⟨u, x, rfl⟩ := he1.some (by decide)
  clear he1 hb1
  go_wp2
  go_ret2
  exact ⟨_, rfl, HE1.out, HB1.out⟩
theorem elAdd_over {w : World} (b : Nat) (v1 v2 : Value) (h : w.cell? ⟨b, 4, none⟩ = some (.bool true)) : Calls Tryz.prog 35 #[sysP b, v1, v2] w fun e w' => ∃ E, e = .returned (.tuple #[.int .i64 0, E]) ∧ ErrAns 7 nameElAdd w' E ∧ Below w.heap.size w w' := by
  have HC := Lib.hid h
  go_enter Tryz.func35, Tryz.ntmps35
  go_wp2_with fail
  refine (over_any b true HC.out).mono ?_
  rintro e w1 ⟨rfl, rfl⟩
  go_wp2_with fail
  refine (New_ans nameElAdd 7 (by decide) _).mono ?_
  rintro e w1 ⟨E1, rfl, he1, hb1⟩
  have HE1 := Lib.hid he1
  have HB1 := Lib.hid hb1
  obtain ⟨u, x, rfl⟩ := he1.some (by decide)
  clear he1 hb1
  go_wp2
  go_ret2
  exact ⟨_, rfl, HE1.out, HB1.out⟩
theorem elAdd_form {w : World} (b n size : Nat) (v1 v2 : Value) (row sym : List Nat) (h0 : w.cell? ⟨b, 0, none⟩ = some (.int .i64 (n : Int))) (h1 : w.cell? ⟨b, 1, none⟩ = some (.int .i64 (size : Int))) (h4 : w.cell? ⟨b, 4, none⟩ = some (.bool false))
    (hr : ListAt wordV w v1 row) (hs : ListAt byteV w v2 sym) (hw : Word row) (hn : n ≤ 4096) (hno : ¬ (wholeB n row = true ∧ sym.length = size)) :
    Calls Tryz.prog 35 #[sysP b, v1, v2] w fun e w' => ∃ E, e = .returned (.tuple #[.int .i64 0, E]) ∧ ErrAns 2 nameElAdd w' E ∧ Below w.heap.size w w' := by
  have HC := Lib.hid h4
  have HR := Lib.hid hr
  have HW := Lib.hid hw
  have hlen := hs.len
  obtain ⟨a1, cp1, rfl, -, -, -⟩ := hr
  obtain ⟨a2, cp2, rfl, -, -, -⟩ := hs
  cases hb : wholeB n row with
  | false =>
    have HWB := Lib.hid hb
    clear hb hno hw
    go_enter Tryz.func35, Tryz.ntmps35
    go_wp2_with fail
    refine (over_any b false HC.out).mono ?_
    rintro e w1 ⟨rfl, rfl⟩
    go_wp2_with fail
    refine (eformed_any _ row n HR.out HW.out hn).mono ?_
    rintro e w1 ⟨rfl, rfl⟩
    rw [HWB.out]
    go_wp2_with fail
    refine (New_ans nameElAdd 2 (by decide) _).mono ?_
    rintro e w1 ⟨E1, rfl, he1, hb1⟩
    have HE1 := Lib.hid he1
    have HB1 := Lib.hid hb1
    obtain ⟨u, x, rfl⟩ := he1.some (by decide)
    clear he1 hb1
    go_wp2
    go_ret2
    exact ⟨_, rfl, HE1.out, HB1.out⟩
  | true =>
    have HWB := Lib.hid hb
    have hne : ¬ sym.length = size := fun e => hno ⟨hb, e⟩
    have hq : ((sym.length : Int) != (size : Int)) = true := by simp; omega
    have hq2 : ((sym.length : Int) == (size : Int)) = false := by simp; omega
    clear hb hno hw hne
    go_enter Tryz.func35, Tryz.ntmps35
    go_wp2_with fail
    refine (over_any b false HC.out).mono ?_
    rintro e w1 ⟨rfl, rfl⟩
    go_wp2_with fail
    refine (eformed_any _ row n HR.out HW.out hn).mono ?_
    rintro e w1 ⟨rfl, rfl⟩
    rw [HWB.out]
    go_wp2_with fail
    refine (New_ans nameElAdd 2 (by decide) _).mono ?_
    rintro e w1 ⟨E1, rfl, he1, hb1⟩
    have HE1 := Lib.hid he1
    have HB1 := Lib.hid hb1
    obtain ⟨u, x, rfl⟩ := he1.some (by decide)
    clear he1 hb1
    go_wp2
    go_ret2
    exact ⟨_, rfl, HE1.out, HB1.out⟩
end Go.Proofs.YtkhdjjcflbdegaaGreatDoor
end
