import Derived.Test.YteilneoamhnndaaDoorSyA
import Derived.Test.YteilneoamhnndaaDoorLists

section
/- Package symbol: Sum, Xor, Zero. -/
namespace Go.Proofs.YteilneoamhnndaaDoor
open Go.RowKit Go.Extern.Stop Go.Stop Go.Extern

abbrev nameSum : ByteArray := ⟨#[115, 121, 109, 98, 111, 108, 46, 83, 117, 109]⟩
abbrev nameXor : ByteArray := ⟨#[115, 121, 109, 98, 111, 108, 46, 88, 111, 114]⟩
abbrev namePick : ByteArray := ⟨#[115, 121, 109, 98, 111, 108, 46, 80, 105, 99, 107]⟩
abbrev nameSplit : ByteArray := ⟨#[115, 121, 109, 98, 111, 108, 46, 83, 112, 108, 105, 116]⟩

/-! ### Xor -/
theorem MatAt.lit {α : Type} {f : α → Value} {w : World} {vs : List Value} {L : List (List α)} (t : TypeId) (n : Nat) (hn : L.length = n) (hl : vs.length = n) (hm : n ≤ maxLen) (h : ∀ i, ListAt f w (vs.getD i nilS) (L.getD i [])) :
    MatAt f (w.alloc (.cells vs.toArray t)) (.slice (some ⟨w.heap.size, 0, none⟩) n n) L := by
  subst hn
  refine ⟨vs, ⟨_, L.length, by rw [hl], by omega, hm, fun _ => ⟨_, 0, rfl, fun j hj => ?_⟩⟩, hl, fun i => (h i).mono ((Below.refl _ _).alloc (Nat.le_refl _) _)⟩
  rw [Nat.zero_add, World.cell?_alloc_at _ _ _ _ (by simp)]
  simp

theorem pair_mat {w : World} {v1 v2 : Value} {xa xb : List Nat} (h1 : ListAt byteV w v1 xa) (h2 : ListAt byteV w v2 xb) :
    MatAt byteV (w.alloc (.cells #[v1, v2] 39)) (.slice (some ⟨w.heap.size, 0, none⟩) 2 2) [xa, xb] :=
  MatAt.lit (vs := [v1, v2]) 39 2 rfl rfl (by decide) fun i => by
    match i with
    | 0 => exact h1
    | 1 => exact h2
    | i + 2 => exact ListAt.nil _ _

/-! ### Zero -/
def zeroB (l : List Nat) : Bool := l.all fun x => x == 0

theorem nonzero_any {w : World} (x : Nat) (b : Bool) (hb : (x != 0) = b) :
    Calls Tryd.prog 47 #[.int .u8 (x : Int)] w fun e w' => e = .returned (.bool b) ∧ w = w' := by
  have hb2 : ((x : Int) != 0) = b := by
    rw [← hb]
    by_cases h : x = 0
    · subst h; rfl
    · have h1 : (x != 0) = true := by simpa using h
      have h2 : ((x : Int) != 0) = true := by simp; omega
      rw [h1, h2]
  go_enter Tryd.func47, Tryd.ntmps47
  go_wp2
  go_ret
  exact ⟨rfl, rfl⟩

set_option maxRecDepth 1000000 in
theorem IndexFunc_any {w : World} (v : Value) (l : List Nat) (h : ListAt byteV w v l) :
    Calls Tryd.prog 51 #[v, .func (.func 47) #[] #[]] w fun e w' => ∃ i : Int, e = .returned (.int .i64 i) ∧ I64 i ∧ decide (0 ≤ i) = !zeroB l ∧ w = w' := by
  have hlen := h.len
  obtain ⟨a, cap, rfl, hcap, hcm, hcell⟩ := h.bytes l.length rfl
  have HC := Lib.hid hcell
  clear h hcell
  go_enter Tryd.func51, Tryd.ntmps51
  go_wp2
  go_loopw [8] (fun i wr => ∃ k : Nat, k ≤ l.length ∧ i = .int .i64 k ∧ (∀ j, j < k → l.getD j 0 = 0) ∧ w = wr) (fun i _ => l.length - (intOf i).toNat)
  case atStart => exact ⟨0, Nat.zero_le _, rfl, fun j hj => by omega, rfl⟩
  case round =>
    obtain ⟨k, hk, rfl, hz, rfl⟩ := hrel
    by_cases hlt : k < l.length
    · obtain ⟨b, off, rfl, hcc⟩ := HC.out (by omega)
      have hx := hcc k hlt
      have HT : Hid (l.getD k 0 = 0 → ∀ j, j < k + 1 → l.getD j 0 = 0) := Lib.hid fun h j hj => by
        by_cases e : j = k
        · rw [e]; exact h
        · exact hz j (by omega)
      have HF : Hid (l.getD k 0 ≠ 0 → decide ((0 : Int) ≤ (k : Int)) = !zeroB l) := Lib.hid fun h => by
        have : zeroB l = false := by
          unfold zeroB
          rw [List.all_eq_false]
          refine ⟨l[k], List.getElem_mem hlt, ?_⟩
          simpa [List.getD_eq_getElem?_getD, hlt] using h
        rw [this, decide_eq_true (by omega)]; rfl
      clear hcc hz
      generalize l.getD k 0 = x at *
      by_cases hx0 : x = 0
      · have hb : (x != 0) = false := by simp [hx0]
        have HT' := Lib.hid (HT.out hx0)
        clear HF HT hx0
        go_wp2_with fail
        refine (nonzero_any x false hb).mono ?_
        rintro e w1 ⟨rfl, rfl⟩
        go_wp2
        go_roundw
        case rel => exact ⟨k + 1, by omega, by go_num, HT'.out, trivial⟩
        case measure => simp [intOf]; omega
      · have hb : (x != 0) = true := by simpa using hx0
        have HF' := Lib.hid (HF.out hx0)
        clear HF HT hx0
        go_wp2_with fail
        refine (nonzero_any x true hb).mono ?_
        rintro e w1 ⟨rfl, rfl⟩
        go_wp2
        go_ret
        exact ⟨_, rfl, ⟨by omega, by omega⟩, HF'.out, rfl⟩
    · have hk' : k = l.length := by omega
      have HF : Hid (decide ((0 : Int) ≤ -1) = !zeroB l) := Lib.hid (by
        have : zeroB l = true := by
          unfold zeroB
          rw [List.all_eq_true]
          intro x hx
          obtain ⟨j, hj, rfl⟩ := List.getElem_of_mem hx
          have := hz j (by omega)
          simpa [List.getD_eq_getElem?_getD, hj] using this
        rw [this]; rfl)
      clear hz
      go_wp2
      go_ret
      exact ⟨_, rfl, ⟨by decide, by decide⟩, HF.out, rfl⟩

theorem Zero_any {w : World} (v : Value) (l : List Nat) (h : ListAt byteV w v l) :
    Calls Tryd.prog 35 #[v] w fun e w' => e = .returned (.bool (zeroB l)) ∧ w = w' := by
  have HL := Lib.hid h
  obtain ⟨a, cap, rfl, -, -, -⟩ := h
  have hmf : ∀ (fn : Fn) (first cap : Array Value) (w : World), (Instr.makeFunc fn first cap).run Tryd.prog w = .ok (.func fn first cap) w := fun _ _ _ _ => rfl
  have HC : Hid (Calls Tryd.prog 46 #[.slice a l.length cap, .func (.func 47) #[] #[]] w fun e w' => e = .returned (.bool (!zeroB l)) ∧ w = w') := by
    show Calls _ _ _ _ _
    go_enter Tryd.func46, Tryd.ntmps46
    go_wp2_with fail
    refine (IndexFunc_any _ l HL.out).mono ?_
    rintro e w1 ⟨i, rfl, hi, hd, rfl⟩
    have HD := Lib.hid hd
    clear hd
    go_wp2
    go_ret
    exact ⟨by rw [← HD.out]; rfl, rfl⟩
  go_enter Tryd.func35, Tryd.ntmps35
  go_wp2_with fail
  refine HC.out.mono ?_
  rintro e w1 ⟨rfl, rfl⟩
  go_wp2
  go_ret
  exact ⟨by simp, rfl⟩
end Go.Proofs.YteilneoamhnndaaDoor
end

section
/- Package symbol: Pick. -/
namespace Go.Proofs.YteilneoamhnndaaDoor
open Go.RowKit Go.Extern.Stop Go.Stop Go.Extern

theorem MatOwn.none {α : Type} {f : α → Value} {te e : TypeId} {base : Nat} (w : World) : MatOwn f te base e w (.slice none 0 0) [] :=
  ⟨[], World.ownsRow_nil _ _ _ _, fun i => by simpa using ElAt.nil f te base _⟩
theorem colsTo_length_le2 (ws : List Nat) (n : Nat) : (colsTo ws n).length ≤ 64 * ws.length := by
  obtain ⟨B, -, hB⟩ := cols_split ws n
  have := colsOf_length_le ws
  rw [hB, List.length_append] at this
  omega

/-- What Pick says of symbols of m bytes. -/
def PickSays (ws : List Nat) (L : List (List Nat)) (m : Nat) (w w' : World) (e : Ending) : Prop :=
  if behindB ws L.length = true then ∃ E, e = .returned (.tuple #[.slice none 0 0, E]) ∧ ErrAns 2 namePick w' E ∧ Below w.heap.size w w'
  else ∃ v', e = .returned (.tuple #[v', .nilIface]) ∧ w'.ownsRow w.heap.size 5 1 v' m ((sumS m (pickTo ws L L.length)).map byteV) ∧ Below w.heap.size w w'

end Go.Proofs.YteilneoamhnndaaDoor
end

section
/- Package symbol: Split. -/
namespace Go.Proofs.YteilneoamhnndaaDoor
open Go.RowKit Go.Extern.Stop Go.Stop Go.Extern

theorem ListAt.cutAt {α : Type} {f : α → Value} {w : World} {b off cap : Nat} {l : List α} (h : ListAt f w (.slice (some ⟨b, off, none⟩) l.length cap) l) (c : Nat) (hc : c ≤ l.length) :
    ListAt f w (.slice (some ⟨b, off + c, none⟩) (l.length - c) (cap - c)) (l.drop c) := by
  obtain ⟨a', cap', e, h1, h2, h3⟩ := h
  cases e
  refine ⟨_, cap - c, by rw [List.length_drop], by rw [List.length_drop]; omega, by omega, fun hp => ⟨b, off + c, rfl, fun j hj => ?_⟩⟩
  rw [List.length_drop] at hj hp
  obtain ⟨b', off', e, hcell⟩ := h3 (by omega)
  cases e
  rw [Nat.add_assoc, hcell (c + j) (by omega)]
  simp

theorem ListAt.addr0 {α : Type} {f : α → Value} {w : World} {a a' : Option Addr} {n cap : Nat} {l : List α} (h : ListAt f w (.slice a n cap) l) (h0 : n = 0) : ListAt f w (.slice a' n cap) l := by
  obtain ⟨a1, cap1, e, h1, h2, -⟩ := h
  obtain ⟨rfl, rfl, rfl⟩ : a = a1 ∧ n = l.length ∧ cap = cap1 := by simpa using e
  exact ⟨a', _, rfl, h1, h2, fun hp => by omega⟩

theorem Split_bad {w : World} (v : Value) (P : List Nat) (n k : Int) (h : ListAt byteV w v P) (hn : I64 n) (hk : checkS [] n = k) (hk0 : k ≠ 0) :
    Calls Tryd.prog 29 #[v, .int .i64 n] w fun e w' => ∃ E, e = .returned (.tuple #[.slice none 0 0, E]) ∧ ErrAns k nameSplit w' E ∧ Below w.heap.size w w' := by
  have HK := Lib.hid hk
  have HN := Lib.hid hn
  have HK0 := Lib.hid hk0
  have HM := Lib.hid (MatAt.nil byteV w)
  have hb : (k != 0) = true := by simpa using hk0
  have hb2 : (k == 0) = false := by simpa using hk0
  obtain ⟨a, cap, rfl, -, -, -⟩ := h
  clear hk hn hk0
  go_enter Tryd.func29, Tryd.ntmps29
  go_wp2_with fail
  refine (wrong_any _ [] n HM.out HN.out).mono ?_
  rintro e w1 ⟨rfl, rfl⟩
  rw [HK.out]
  go_wp2_with fail
  refine (New_ans nameSplit k HK0.out _).mono ?_
  rintro e w1 ⟨E1, rfl, he1, hb1⟩
  have HE1 := Lib.hid he1
  have HB1 := Lib.hid hb1
  obtain ⟨u, x, rfl⟩ := he1.some HK0.out
  clear he1 hb1
  go_wp2
  go_ret2
  exact ⟨_, rfl, HE1.out, HB1.out⟩

theorem piece_splice (P : List Nat) (m k : Nat) : splice (List.replicate m (byteV 0)) 0 (((P.drop (k * m)).take m).map byteV) = (pieceAt P m k).map byteV := by
  unfold splice pieceAt
  have hcl : (((P.drop (k * m)).take m).map byteV).length = min m (P.length - k * m) := by simp
  rw [List.take_zero, List.nil_append, Nat.zero_add, hcl]
  generalize hq : k * m = q at *
  apply List.ext_getElem?
  intro j
  rw [List.getElem?_append, hcl]
  by_cases hjm : j < m
  · by_cases hj : q + j < P.length
    · rw [if_pos (by omega)]
      simp [hjm, List.getD_eq_getElem?_getD, hj]
    · rw [if_neg (by omega), List.getElem?_drop, List.getElem?_replicate, if_pos (by omega)]
      simp [hjm, List.getD_eq_getElem?_getD, List.getElem?_eq_none (show P.length ≤ q + j by omega)]
  · rw [if_neg (by omega), List.getElem?_drop, List.getElem?_replicate, if_neg (by omega)]
    simp [List.getElem?_eq_none (show (List.range m).length ≤ j by simp; omega)]

set_option maxRecDepth 1000000 in
set_option maxHeartbeats 4000000 in
theorem Split_ok {w : World} (v : Value) (P : List Nat) (m : Nat) (h : ListAt byteV w v P) (h1 : 1 ≤ m) (h2 : m ≤ 64) (hP : P.length ≤ 4194304) :
    Calls Tryd.prog 29 #[v, .int .i64 (m : Int)] w fun e w' => ∃ v', e = .returned (.tuple #[v', .nilIface]) ∧ MatOwn byteV 5 w.heap.size 39 w' v' (splitTo P m (pieces P m)) ∧ Below w.heap.size w w' := by
  obtain ⟨i0, hi0, hz0, hz1, hz2⟩ := info_parts info_sym
  obtain ⟨j0, hj0, jz0, jz1, jz2⟩ := info_parts info_u8
  have HM := Lib.hid (MatAt.nil byteV w)
  have HK := Lib.hid (checkS_ok (L := []) h1 h2 (fun r hr => by simp at hr))
  have HV := Lib.hid h
  obtain ⟨a, cap, rfl, -, -, -⟩ := h
  go_enter Tryd.func29, Tryd.ntmps29
  go_wp2_with fail
  refine (wrong_any _ [] (m : Int) HM.out (by omega)).mono ?_
  rintro e w1 ⟨rfl, rfl⟩
  rw [HK.out]
  go_wp2_with fail
  go_loopw [0, 7] (fun pv o wr => ∃ k : Nat, k ≤ pieces P m ∧ ListAt byteV w pv (P.drop (k * m)) ∧ MatOwn byteV 5 w.heap.size 39 wr o (splitTo P m k) ∧ Below w.heap.size w wr) (fun pv _ _ => match pv with | .slice _ n _ => n | _ => 0)
  case atStart => exact ⟨0, Nat.zero_le _, by rw [Nat.zero_mul]; exact HV.out, MatOwn.none w, Below.refl _ _⟩
  case round =>
    obtain ⟨k, hk, hpv, ⟨vs, hown, hel⟩, hbel⟩ := hrel
    have hsz := hbel.size
    have HPV := Lib.hid hpv
    have hrl : (P.drop (k * m)).length = P.length - k * m := List.length_drop
    obtain ⟨ap, cp, rfl, hcp, hcm, hcell⟩ := hpv.bytes _ rfl
    by_cases hlt : k * m < P.length
    · obtain ⟨b, off, rfl, hcc⟩ := hcell (by omega)
      have HCC := Lib.hid hcc
      have HCUT := Lib.hid (fun c hc => HPV.out.cutAt c hc)
      have HPS := Lib.hid (piece_splice P m k)
      have hkl : k < pieces P m := (pieces_lt h1).1 hlt
      obtain ⟨cs, hcs⟩ : ∃ cs, cs = ((P.drop (k * m)).take m).map byteV := ⟨_, rfl⟩
      have hcl : cs.length = min m (P.length - k * m) := by rw [hcs]; simp
      rw [← hcs] at HPS
      have HCV : Hid (∀ j u, cs[j]? = some u → w.cell? ⟨b, off + j, none⟩ = some u) := Lib.hid fun j u hu => by
        have hj : j < cs.length := (List.getElem?_eq_some_iff.1 hu).1
        rw [hcc j (by omega)]
        rw [hcs] at hu
        have hj2 : k * m + j < P.length := by omega
        simp [show j < m by omega, byteV, hj2] at hu
        simp [List.getD_eq_getElem?_getD, hj2, hu]
      have HC1 : Hid (∀ u ∈ cs, u.oneCell' = true) := Lib.hid fun u hu => by
        rw [hcs] at hu
        obtain ⟨y, _, rfl⟩ := List.mem_map.1 hu; rfl
      have HNX : Hid ((P.drop (k * m)).drop cs.length = P.drop ((k + 1) * m)) := Lib.hid (by
        rw [List.drop_drop, Nat.succ_mul, hcl]
        by_cases hm : m ≤ P.length - k * m
        · rw [Nat.min_eq_left hm]
        · rw [Nat.min_eq_right (by omega), List.drop_of_length_le (by omega), List.drop_of_length_le (by omega)])
      have HO := Lib.hid hown
      rw [splitTo_length] at HO
      have HEL := Lib.hid hel
      have HB := Lib.hid hbel
      have hkm : k ≤ P.length := by
        have := Nat.le_mul_of_pos_right k h1
        omega
      rw [hrl] at HPV hcp HCUT ⊢
      generalize hR : P.length - k * m = R at *
      have hR0 : 0 < R := by omega
      have hRI : (0 : Int) < (R : Int) := by omega
      clear hcs hcc hown hel hbel hcell hpv hrl
      have hcR : cs.length ≤ R := by omega
      have hcM : cs.length ≤ m := by omega
      have hc1 : 1 ≤ cs.length := by omega
      have hcRI : (cs.length : Int) ≤ (R : Int) := by omega
      have hRcI : (R : Int) ≤ (cp : Int) := by omega
      have HCL : Hid (cs.length = Nat.min R m) := Lib.hid (by rw [hcl]; exact Nat.min_comm m R)
      have HNEXT : Hid (ListAt byteV w (.slice (if cp = cs.length then some ⟨b, off, none⟩ else some ⟨b, off + cs.length, none⟩) (R - cs.length) (cp - cs.length)) (P.drop ((k + 1) * m))) := Lib.hid (by
        have h := HCUT.out cs.length hcR
        rw [HNX.out] at h
        by_cases e : cp = cs.length
        · rw [if_pos e]; exact h.addr0 (by omega)
        · rw [if_neg e]; exact h)
      clear hcl hR HCUT HNX HPV HCC
      go_wp2_with (first
        | (at_make; refine wpList_make_full _ rfl _ _ 39 rfl w.heap.size 5 j0 (.int .u8 0) 1 Tryd.underlying39 hj0 jz0 jz1 .i64 .i64 _ _ m rfl rfl rfl rfl (by rw [jz2]; omega) (by unfold maxLen; omega) hsz ?_; intro w0 hown0 hgrow0; have hbw := Lib.hid ((Below.refl wr.heap.size wr).grown hgrow0 (Nat.le_refl _) (fun k hk => by cases hk)); have ho1 : Hid (w0.ownsRow w.heap.size 5 1 (.slice (some ⟨wr.heap.size, 0, none⟩) m m) m (List.replicate m (byteV 0))) := Lib.hid (by rw [Nat.mul_one] at hown0; exact toList_madeCells_one (.int .u8 0) m ▸ hown0); clear hown0 hgrow0)
        | ((with_reducible show wpList _ _ _ (⟨some 23, _, _, _, _, _⟩ :: _) _ _); refine wpList_copy_splice rfl (.tmp 21) (.tmp 22) 39 39 rfl 5 Tryd.underlying39 (by rw [hj0]; exact congrArg some jz1) (some ⟨wr.heap.size, 0, none⟩) (some ⟨b, off, none⟩) m m R cp rfl rfl wr.heap.size 0 (List.replicate m (byteV 0)) 5 (own_full ho1.out).2.2 cs HCL.out (fun _ => ⟨rfl, _, rfl, fun j u hu => by
            have h3 := HCV.out j u hu
            rw [Go.WideShapes.add_plain, (HB.out.trans (hbw.out.mono hsz)).cell (p := ⟨b, off + j, none⟩) (World.block_lt_of_cell? w _ h3), h3]⟩) (by rw [List.length_replicate, Nat.zero_add]; exact hcM) HC1.out wr.heap.size wr hbw.out (Nat.le_refl _) ?_; intro w2 hg2 hb2; have HG2 := hg2; have HB2 := Lib.hid hb2; clear hg2 hb2)
        | (at_builtin; refine wpList_append_own _ rfl (.tmp 25) (.tmp 27) 46 rfl w.heap.size 39 i0 (.slice none 0 0) 1 24 Tryd.underlying46 hi0 hz0 hz1 hz2 rfl (by decide) u7 k vs rfl ((owns_kept HO.out HB2.out).alloc _) ⟨w2.heap.size, 0, none⟩ 1 1 [.slice (some ⟨wr.heap.size, 0, none⟩) m m] rfl rfl (cell_one_new _ _ _) (fun x hx => by simp at hx; subst hx; rfl) (by unfold maxLen; omega) (by omega) (by have := HB2.out.size; simp; omega) ?_; intro v3 w3 hown1 hgrow1 _; have hb3 := Lib.hid (((HB.out.trans (HB2.out.mono hsz)).alloc (Nat.le_trans hsz HB2.out.size) _).grown hgrow1 (by have := HB2.out.size; simp; omega) (fun k hk => (HO.out.lt k hk).1)); have ho3 : Hid (MatOwn byteV 5 w.heap.size 39 w3 v3 (splitTo P m k ++ [pieceAt P m k])) := Lib.hid (MatOwn.app (by decide) (by rw [splitTo_length]; exact owns_kept HO.out HB2.out) (fun i => (HEL.out i).mono HB2.out) (ElAt.own (f := byteV) (own_of_heap (Nat.le_refl wr.heap.size) (by rw [List.length_map, pieceAt_length]) (by unfold maxLen; omega) (by have h := HG2.out; rw [HPS.out] at h; exact h))) (by rw [splitTo_length]; exact hown1) hgrow1); clear hown1 hgrow1))
      go_roundw
      case rel => exact ⟨k + 1, by omega, HNEXT.out, by rw [splitTo_succ]; exact ho3.out, hb3.out⟩
      case measure => show R - cs.length < R; omega
    · have hk' : k = pieces P m := by
        have := mt (pieces_lt (p := P) (k := k) h1).2 hlt
        omega
      have hR0 : P.length - k * m = 0 := by omega
      have HO : Hid (MatOwn byteV 5 w.heap.size 39 wr u7 (splitTo P m (pieces P m))) := Lib.hid (by rw [← hk']; exact ⟨vs, hown, hel⟩)
      have HB := Lib.hid hbel
      obtain ⟨ao, co, rfl, -, -⟩ := own_open hown
      rw [hrl, hR0]
      clear hown hel hbel hpv HPV hcell hrl hR0 hlt hcp
      go_wp2
      go_ret2
      exact ⟨_, rfl, HO.out, HB.out⟩
end Go.Proofs.YteilneoamhnndaaDoor
end

section
/- A list of rows of the call's own, each row in memory of the call's own (MatFresh). -/
namespace Go.Proofs.YteilneoamhnndaaDoor
open Go.RowKit Go.Extern.Stop Go.Stop Go.Extern

def MatFresh {α : Type} (f : α → Value) (te : TypeId) (base : Nat) (e : TypeId) (w : World) (v : Value) (L : List (List α)) : Prop :=
  ∃ vs : List Value, w.ownsRow base e 1 v L.length vs ∧ (∀ i, ElAt f te base w (vs.getD i nilS) (L.getD i [])) ∧ ∀ x ∈ vs, ∀ b, x.ownBlock = some b → base ≤ b

theorem own_ge {g base n c : Nat} (h : base ≤ g) : ∀ b, (Value.slice (some ⟨g, 0, none⟩) n c).ownBlock = some b → base ≤ b := by
  intro b hb
  have e : g = b := by simpa [Value.ownBlock] using hb
  omega

section
variable {α : Type} {f : α → Value} {w w2 wr : World} {v v2 x : Value} {L : List (List α)} {te e : TypeId} {base : Nat} {r : List α} {vs : List Value}

theorem MatFresh.own (h : MatFresh f te base e w v L) : MatOwn f te base e w v L := by
  obtain ⟨vs, h1, h2, -⟩ := h
  exact ⟨vs, h1, h2⟩
theorem MatFresh.empty (w : World) : MatFresh f te base e w (.slice none 0 0) [] :=
  ⟨[], World.ownsRow_nil _ _ _ _, fun i => by simpa using ElAt.nil f te base _, fun x hx => by simp at hx⟩
theorem MatFresh.app {o : Obj} (hfr : ∀ x ∈ vs, ∀ b, x.ownBlock = some b → base ≤ b) (hxb : ∀ b, x.ownBlock = some b → base ≤ b) (hne : e ≠ te) (hown : w.ownsRow base e 1 v L.length vs) (hel : ∀ i, ElAt f te base w (vs.getD i nilS) (L.getD i [])) (hx : ElAt f te base w x r)
    (hown' : w2.ownsRow base e 1 v2 (L.length + 1) (vs ++ [x])) (hg : (w.alloc o).grownBy w2 v.ownBlock) : MatFresh f te base e w2 v2 (L ++ [r]) := by
  have hb : Below w.heap.size w (w.alloc o) := (Below.refl _ _).alloc (Nat.le_refl _) _
  have hl : vs.length = L.length := by have := hown.1; omega
  refine ⟨vs ++ [x], by rw [List.length_append]; exact hown', fun i => ?_, fun y hy b hyb => ?_⟩
  · rw [getD_snoc, getD_snoc, hl]
    by_cases h : i < L.length
    · rw [if_pos h, if_pos h]; exact ((hel i).mono hb).grown hne (hown.alloc o) hg
    · rw [if_neg h, if_neg h]
      by_cases h2 : i = L.length
      · rw [if_pos h2, if_pos h2]; exact (hx.mono hb).grown hne (hown.alloc o) hg
      · rw [if_neg h2, if_neg h2]; exact ElAt.nil f te base _
  · rcases List.mem_append.1 hy with h | h
    · exact hfr y h b hyb
    · rw [List.mem_singleton.1 h] at hyb; exact hxb b hyb
/-- What is written into a row that is older leaves it as it reads. -/
theorem MatFresh.at_kept {row : Option Nat} (h : MatFresh f te base e w v L) (hg : w.grownBy wr row) (hr : ∀ b, row = some b → b < base) : MatAt f wr v L := by
  obtain ⟨vs, h1, h2, h3⟩ := h
  have hl : vs.length = L.length := by have := h1.1; omega
  have hv : v.ownBlock = none ∨ v.ownBlock ≠ row := by
    cases hb : v.ownBlock with
    | none => exact .inl rfl
    | some k =>
      refine .inr fun e => ?_
      have := (h1.lt k hb).1
      have := hr k e.symm
      omega
  refine ⟨vs, ListAt.of_owns (n := L.length) (by rw [List.map_id]; exact h1.kept hg hv), hl, fun i => ?_⟩
  obtain ⟨a, cap, e1, h4, h5, h6⟩ := (h2 i).1
  refine ⟨a, cap, e1, h4, h5, fun hp => ?_⟩
  obtain ⟨b, off, rfl, hc⟩ := h6 hp
  have hi : i < vs.length := by
    apply Nat.lt_of_not_le
    intro hle
    rw [List.getD_eq_getElem?_getD (l := L), List.getElem?_eq_none (by omega)] at hp
    simp at hp
  have hbb : base ≤ b := h3 (vs.getD i nilS) (by rw [List.getD_eq_getElem?_getD, List.getElem?_eq_getElem hi]; exact List.getElem_mem hi) b (by rw [e1]; rfl)
  refine ⟨b, off, rfl, fun j hj => ?_⟩
  have hx := hc j hj
  rw [World.cell?_of_block (w := w) (a := ⟨b, off + j, none⟩) (hg.block b (World.block_lt_of_cell? w _ hx) (fun e => by have := hr b e.symm; omega))]
  exact hx
end

theorem MatFresh.mono {α : Type} {f : α → Value} {w w' : World} {te e : TypeId} {base : Nat} {v : Value} {L : List (List α)} (h : MatFresh f te base e w v L) (hb : Below w.heap.size w w') : MatFresh f te base e w' v L := by
  obtain ⟨vs, h1, h2, h3⟩ := h
  exact ⟨vs, owns_kept h1 hb, fun i => (h2 i).mono hb, h3⟩
theorem MatFresh.start {α : Type} {f : α → Value} {te e : TypeId} {base : Nat} (w : World) (hb : base ≤ w.heap.size) : MatFresh f te base e (w.alloc (.cells #[] e)) (.slice (some ⟨w.heap.size, 0, none⟩) 0 0) [] :=
  ⟨[], World.ownsRow_made (base := base) (e := e) (size := 1) w #[] 0 hb (by decide) rfl, fun i => by simpa using ElAt.nil f te base _, fun x hx => by simp at hx⟩
theorem MatFresh.below {α : Type} {f : α → Value} {w : World} {te e : TypeId} {base base' : Nat} {v : Value} {L : List (List α)} (h : MatFresh f te base e w v L) (hb : base' ≤ base) : MatFresh f te base' e w v L := by
  obtain ⟨vs, h1, h2, h3⟩ := h
  refine ⟨vs, ownsRow_base h1 hb, fun i => ⟨(h2 i).1, fun hp b hx => ?_⟩, fun x hx b hxb => Nat.le_trans hb (h3 x hx b hxb)⟩
  rcases (h2 i).2 hp b hx with h4 | h4
  · by_cases hi : i < vs.length
    · have e1 : vs.getD i nilS = vs[i] := by simp [List.getD_eq_getElem?_getD, hi]
      have := h3 _ (List.getElem_mem hi) b (by rw [← e1]; exact hx)
      omega
    · rw [List.getD_eq_getElem?_getD, List.getElem?_eq_none (by omega)] at hx
      cases hx
  · exact .inr h4
/-- What lies from a block number on stays as it reads where what is written lies ahead of it. -/
theorem MatFresh.far {α : Type} {f : α → Value} {w w' : World} {te e : TypeId} {base : Nat} {v : Value} {L : List (List α)} (h : MatFresh f te base e w v L) (hs : ∀ g, base ≤ g → g < w.heap.size → w'.heap[g]? = w.heap[g]?) : MatFresh f te base e w' v L := by
  obtain ⟨vs, h1, h2, h3⟩ := h
  refine ⟨vs, ⟨h1.1, ?_⟩, fun i => ?_, h3⟩
  · rcases h1.2 with h4 | ⟨g, cap, cur, h4, h5, h6, h7⟩
    · exact .inl h4
    · exact .inr ⟨g, cap, cur, h4, h5, by rw [hs g h5 (Array.getElem?_eq_some_iff.1 h6).1]; exact h6, h7⟩
  · obtain ⟨⟨a, cap, ev, k1, k2, k3⟩, k4⟩ := h2 i
    by_cases hp : 0 < (L.getD i []).length
    · obtain ⟨b, off, rfl, hc⟩ := k3 hp
      have hob : (vs.getD i nilS).ownBlock = some b := by rw [ev]; rfl
      have hlt : base ≤ b := by
        by_cases hi : i < vs.length
        · have e1 : vs.getD i nilS = vs[i] := by simp [List.getD_eq_getElem?_getD, hi]
          exact h3 _ (List.getElem_mem hi) b (by rw [← e1]; exact hob)
        · rw [List.getD_eq_getElem?_getD, List.getElem?_eq_none (by omega)] at hob
          cases hob
      have hb := hs b hlt (World.block_lt_of_cell? w _ (hc 0 hp))
      refine ⟨⟨_, cap, ev, k1, k2, fun _ => ⟨b, off, rfl, fun j hj => ?_⟩⟩, fun _ b' hb' => ?_⟩
      · rw [World.cell?_of_block (w := w) (a := ⟨b, off + j, none⟩) hb]
        exact hc j hj
      · rw [hob] at hb'
        cases hb'
        rw [hb]
        exact k4 hp b hob
    · exact ⟨⟨a, cap, ev, k1, k2, fun hp' => absurd hp' hp⟩, fun hp' => absurd hp' hp⟩

end Go.Proofs.YteilneoamhnndaaDoor
end

section
/- Split's answer is a list of rows of the call's own (MatFresh). -/
namespace Go.Proofs.YteilneoamhnndaaDoor
open Go.RowKit Go.Extern.Stop Go.Stop Go.Extern

set_option maxRecDepth 1000000 in
set_option maxHeartbeats 4000000 in
theorem Split_new {w : World} (v : Value) (P : List Nat) (m : Nat) (h : ListAt byteV w v P) (h1 : 1 ≤ m) (h2 : m ≤ 64) (hP : P.length ≤ 4194304) :
    Calls Tryd.prog 29 #[v, .int .i64 (m : Int)] w fun e w' => ∃ v', e = .returned (.tuple #[v', .nilIface]) ∧ MatFresh byteV 5 w.heap.size 39 w' v' (splitTo P m (pieces P m)) ∧ Below w.heap.size w w' := by
  obtain ⟨i0, hi0, hz0, hz1, hz2⟩ := info_parts info_sym
  obtain ⟨j0, hj0, jz0, jz1, jz2⟩ := info_parts info_u8
  have HM := Lib.hid (MatAt.nil byteV w)
  have HK := Lib.hid (checkS_ok (L := []) h1 h2 (fun r hr => by simp at hr))
  have HV := Lib.hid h
  obtain ⟨a, cap, rfl, -, -, -⟩ := h
  go_enter Tryd.func29, Tryd.ntmps29
  go_wp2_with fail
  refine (wrong_any _ [] (m : Int) HM.out (by omega)).mono ?_
  rintro e w1 ⟨rfl, rfl⟩
  rw [HK.out]
  go_wp2_with fail
  go_loopw [0, 7] (fun pv o wr => ∃ k : Nat, k ≤ pieces P m ∧ ListAt byteV w pv (P.drop (k * m)) ∧ MatFresh byteV 5 w.heap.size 39 wr o (splitTo P m k) ∧ Below w.heap.size w wr) (fun pv _ _ => match pv with | .slice _ n _ => n | _ => 0)
  case atStart => exact ⟨0, Nat.zero_le _, by rw [Nat.zero_mul]; exact HV.out, MatFresh.empty w, Below.refl _ _⟩
  case round =>
    obtain ⟨k, hk, hpv, ⟨vs, hown, hel, hfr⟩, hbel⟩ := hrel
    have HFR := Lib.hid hfr
    have hsz := hbel.size
    have HPV := Lib.hid hpv
    have hrl : (P.drop (k * m)).length = P.length - k * m := List.length_drop
    obtain ⟨ap, cp, rfl, hcp, hcm, hcell⟩ := hpv.bytes _ rfl
    by_cases hlt : k * m < P.length
    · obtain ⟨b, off, rfl, hcc⟩ := hcell (by omega)
      have HCC := Lib.hid hcc
      have HCUT := Lib.hid (fun c hc => HPV.out.cutAt c hc)
      have HPS := Lib.hid (piece_splice P m k)
      have hkl : k < pieces P m := (pieces_lt h1).1 hlt
      obtain ⟨cs, hcs⟩ : ∃ cs, cs = ((P.drop (k * m)).take m).map byteV := ⟨_, rfl⟩
      have hcl : cs.length = min m (P.length - k * m) := by rw [hcs]; simp
      rw [← hcs] at HPS
      have HCV : Hid (∀ j u, cs[j]? = some u → w.cell? ⟨b, off + j, none⟩ = some u) := Lib.hid fun j u hu => by
        have hj : j < cs.length := (List.getElem?_eq_some_iff.1 hu).1
        rw [hcc j (by omega)]
        rw [hcs] at hu
        have hj2 : k * m + j < P.length := by omega
        simp [show j < m by omega, byteV, hj2] at hu
        simp [List.getD_eq_getElem?_getD, hj2, hu]
      have HC1 : Hid (∀ u ∈ cs, u.oneCell' = true) := Lib.hid fun u hu => by
        rw [hcs] at hu
        obtain ⟨y, _, rfl⟩ := List.mem_map.1 hu; rfl
      have HNX : Hid ((P.drop (k * m)).drop cs.length = P.drop ((k + 1) * m)) := Lib.hid (by
        rw [List.drop_drop, Nat.succ_mul, hcl]
        by_cases hm : m ≤ P.length - k * m
        · rw [Nat.min_eq_left hm]
        · rw [Nat.min_eq_right (by omega), List.drop_of_length_le (by omega), List.drop_of_length_le (by omega)])
      have HO := Lib.hid hown
      rw [splitTo_length] at HO
      have HEL := Lib.hid hel
      have HB := Lib.hid hbel
      have hkm : k ≤ P.length := by
        have := Nat.le_mul_of_pos_right k h1
        omega
      rw [hrl] at HPV hcp HCUT ⊢
      generalize hR : P.length - k * m = R at *
      have hR0 : 0 < R := by omega
      have hRI : (0 : Int) < (R : Int) := by omega
      clear hcs hcc hown hel hbel hcell hpv hrl hfr
      have hcR : cs.length ≤ R := by omega
      have hcM : cs.length ≤ m := by omega
      have hc1 : 1 ≤ cs.length := by omega
      have hcRI : (cs.length : Int) ≤ (R : Int) := by omega
      have hRcI : (R : Int) ≤ (cp : Int) := by omega
      have HCL : Hid (cs.length = Nat.min R m) := Lib.hid (by rw [hcl]; exact Nat.min_comm m R)
      have HNEXT : Hid (ListAt byteV w (.slice (if cp = cs.length then some ⟨b, off, none⟩ else some ⟨b, off + cs.length, none⟩) (R - cs.length) (cp - cs.length)) (P.drop ((k + 1) * m))) := Lib.hid (by
        have h := HCUT.out cs.length hcR
        rw [HNX.out] at h
        by_cases e : cp = cs.length
        · rw [if_pos e]; exact h.addr0 (by omega)
        · rw [if_neg e]; exact h)
      clear hcl hR HCUT HNX HPV HCC
      go_wp2_with (first
        | (at_make; refine wpList_make_full _ rfl _ _ 39 rfl w.heap.size 5 j0 (.int .u8 0) 1 Tryd.underlying39 hj0 jz0 jz1 .i64 .i64 _ _ m rfl rfl rfl rfl (by rw [jz2]; omega) (by unfold maxLen; omega) hsz ?_; intro w0 hown0 hgrow0; have hbw := Lib.hid ((Below.refl wr.heap.size wr).grown hgrow0 (Nat.le_refl _) (fun k hk => by cases hk)); have ho1 : Hid (w0.ownsRow w.heap.size 5 1 (.slice (some ⟨wr.heap.size, 0, none⟩) m m) m (List.replicate m (byteV 0))) := Lib.hid (by rw [Nat.mul_one] at hown0; exact toList_madeCells_one (.int .u8 0) m ▸ hown0); clear hown0 hgrow0)
        | ((with_reducible show wpList _ _ _ (⟨some 23, _, _, _, _, _⟩ :: _) _ _); refine wpList_copy_splice rfl (.tmp 21) (.tmp 22) 39 39 rfl 5 Tryd.underlying39 (by rw [hj0]; exact congrArg some jz1) (some ⟨wr.heap.size, 0, none⟩) (some ⟨b, off, none⟩) m m R cp rfl rfl wr.heap.size 0 (List.replicate m (byteV 0)) 5 (own_full ho1.out).2.2 cs HCL.out (fun _ => ⟨rfl, _, rfl, fun j u hu => by
            have h3 := HCV.out j u hu
            rw [Go.WideShapes.add_plain, (HB.out.trans (hbw.out.mono hsz)).cell (p := ⟨b, off + j, none⟩) (World.block_lt_of_cell? w _ h3), h3]⟩) (by rw [List.length_replicate, Nat.zero_add]; exact hcM) HC1.out wr.heap.size wr hbw.out (Nat.le_refl _) ?_; intro w2 hg2 hb2; have HG2 := hg2; have HB2 := Lib.hid hb2; clear hg2 hb2)
        | (at_builtin; refine wpList_append_own _ rfl (.tmp 25) (.tmp 27) 46 rfl w.heap.size 39 i0 (.slice none 0 0) 1 24 Tryd.underlying46 hi0 hz0 hz1 hz2 rfl (by decide) u7 k vs rfl ((owns_kept HO.out HB2.out).alloc _) ⟨w2.heap.size, 0, none⟩ 1 1 [.slice (some ⟨wr.heap.size, 0, none⟩) m m] rfl rfl (cell_one_new _ _ _) (fun x hx => by simp at hx; subst hx; rfl) (by unfold maxLen; omega) (by omega) (by have := HB2.out.size; simp; omega) ?_; intro v3 w3 hown1 hgrow1 _; have hb3 := Lib.hid (((HB.out.trans (HB2.out.mono hsz)).alloc (Nat.le_trans hsz HB2.out.size) _).grown hgrow1 (by have := HB2.out.size; simp; omega) (fun k hk => (HO.out.lt k hk).1)); have ho3 : Hid (MatFresh byteV 5 w.heap.size 39 w3 v3 (splitTo P m k ++ [pieceAt P m k])) := Lib.hid (MatFresh.app HFR.out (own_ge hsz) (by decide) (by rw [splitTo_length]; exact owns_kept HO.out HB2.out) (fun i => (HEL.out i).mono HB2.out) (ElAt.own (f := byteV) (own_of_heap (Nat.le_refl wr.heap.size) (by rw [List.length_map, pieceAt_length]) (by unfold maxLen; omega) (by have h := HG2.out; rw [HPS.out] at h; exact h))) (by rw [splitTo_length]; exact hown1) hgrow1); clear hown1 hgrow1))
      go_roundw
      case rel => exact ⟨k + 1, by omega, HNEXT.out, by rw [splitTo_succ]; exact ho3.out, hb3.out⟩
      case measure => show R - cs.length < R; omega
    · have hk' : k = pieces P m := by
        have := mt (pieces_lt (p := P) (k := k) h1).2 hlt
        omega
      have hR0 : P.length - k * m = 0 := by omega
      have HO : Hid (MatFresh byteV 5 w.heap.size 39 wr u7 (splitTo P m (pieces P m))) := Lib.hid (by rw [← hk']; exact ⟨vs, hown, hel, hfr⟩)
      have HB := Lib.hid hbel
      obtain ⟨ao, co, rfl, -, -⟩ := own_open hown
      rw [hrl, hR0]
      clear hown hel hbel hfr hpv HPV hcell hrl hR0 hlt hcp
      go_wp2
      go_ret2
      exact ⟨_, rfl, HO.out, HB.out⟩
end Go.Proofs.YteilneoamhnndaaDoor
end
