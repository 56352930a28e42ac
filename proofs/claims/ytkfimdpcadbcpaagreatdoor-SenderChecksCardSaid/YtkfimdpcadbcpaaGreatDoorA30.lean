import Derived.OwnWalk
import Derived.Deep.AppendLies
import Derived.Deep.RegionLaw
import Derived.Laws.AppendOwnNone
import Derived.Deep.Cut
import Derived.Test.YtkfimdpcadbcpaaGreatDoorA11
import Derived.Test.YtkfimdpcadbcpaaGreatDoorA02
import Derived.Deep.RegionHeld
import Derived.Test.YtkfimdpcadbcpaaGreatDoorA29
import Derived.Test.YtkfimdpcadbcpaaGreatDoorA12
import Derived.Test.YtkfimdpcadbcpaaGreatDoorA01
set_option linter.unusedSimpArgs false
set_option linter.unusedVariables false
set_option maxRecDepth 1000000
set_option maxHeartbeats 8000000
namespace Go.Proofs.YtkfimdpcadbcpaaGreatDoor
section
open Go.RowKit Go.Extern.Stop Go.Stop Go.Extern
abbrev Fld := Int × Int
def noFld : Fld := (0, 0)
def FldsAt (W : World) (v : Value) (L : List Fld) : Prop :=
  ∃ b, v = .slice (some ⟨b, 0, none⟩) L.length L.length ∧ ∀ j, j < L.length →
    W.cell? ⟨b, j * 2, none⟩ = some (.int .i64 (L.getD j noFld).1) ∧ W.cell? ⟨b, j * 2 + 1, none⟩ = some (.int .i64 (L.getD j noFld).2)
def flatF : List Fld → List Value
  | [] => []
  | x :: L => .int .i64 x.1 :: .int .i64 x.2 :: flatF L
theorem zEV : ∀ (L : List Fld) (j : Nat), j < L.length → (flatF L)[j * 2]? = some (.int .i64 (L.getD j noFld).1) ∧ (flatF L)[j * 2 + 1]? = some (.int .i64 (L.getD j noFld).2)
  | [], j, h => by simp at h
  | x :: L, 0, _ => ⟨rfl, rfl⟩
  | x :: L, j + 1, h => by
    have := zEV L j (by simpa using h)
    rw [show (j + 1) * 2 = j * 2 + 1 + 1 by omega]
    exact this
theorem zCG (w : World) (L : List Fld) (T : TypeId) : FldsAt (w.alloc (.cells (flatF L).toArray T)) (.slice (some ⟨w.heap.size, 0, none⟩) L.length L.length) L := by
  refine ⟨_, rfl, fun j hj => ?_⟩
  obtain ⟨h0, h1⟩ := zEV L j hj
  have hh := heap_alloc_new w (.cells (flatF L).toArray T)
  exact ⟨zAa hh (by simpa using h0), zAa hh (by simpa using h1)⟩
def bytesF (L : List Fld) : List Nat := (L.map fun x => beN x.1.toNat x.2.toNat).flatten
theorem zCN (L : List Fld) (j : Nat) (h : j < L.length) : bytesF (L.take (j + 1)) = bytesF (L.take j) ++ beN (L.getD j noFld).1.toNat (L.getD j noFld).2.toNat := by
  unfold bytesF
  rw [List.take_add_one, List.getElem?_eq_getElem h, List.map_append, List.flatten_append, List.getD_eq_getElem?_getD, List.getElem?_eq_getElem h]
  simp
def LayF (L : List Fld) : Prop := ∀ x ∈ L, (x.1 = 1 ∨ x.1 = 2 ∨ x.1 = 4 ∨ x.1 = 5) ∧ 0 ≤ x.2 ∧ x.2 ≤ 9223372036854775807
theorem zGO {L : List Fld} (h : LayF L) {j : Nat} (hj : j < L.length) : ((L.getD j noFld).1 = 1 ∨ (L.getD j noFld).1 = 2 ∨ (L.getD j noFld).1 = 4 ∨ (L.getD j noFld).1 = 5) ∧ 0 ≤ (L.getD j noFld).2 ∧ (L.getD j noFld).2 ≤ 9223372036854775807 := by
  rw [List.getD_eq_getElem?_getD, List.getElem?_eq_getElem hj]
  exact h _ (List.getElem_mem hj)
theorem zJk {L : List Fld} (h : LayF L) (j : Nat) : (bytesF (L.take j)).length ≤ 5 * j := by
  induction j with
  | zero => simp [bytesF]
  | succ j ih =>
    by_cases hj : j < L.length
    · rw [zCN L j hj, List.length_append, zBc]
      have := (zGO h hj).1
      omega
    · rw [List.take_of_length_le (by omega)]
      rw [List.take_of_length_le (by omega)] at ih
      omega
def FBox (W : World) (g : Nat) (k n : Int) : Prop := W.heap[g]? = some (.cells #[.int .i64 k, .int .i64 n] 229 (0, 0))
theorem FBox.lt {W : World} {g : Nat} {k n : Int} (h : FBox W g k n) : g < W.heap.size := (Array.getElem?_eq_some_iff.1 h).1
theorem FBox.cell {W : World} {g : Nat} {k n : Int} (h : FBox W g k n) : W.cell? ⟨g, 0, none⟩ = some (.int .i64 k) ∧ W.cell? ⟨g, 1, none⟩ = some (.int .i64 n) := ⟨zAa h rfl, zAa h rfl⟩
theorem FBox.alloc {W : World} {g : Nat} {k n : Int} (h : FBox W g k n) (o : Obj) : FBox (W.alloc o) g k n :=
  ((World.grownBy_alloc W o none).block g h.lt (by simp)).trans h
theorem FBox.grown {W W' : World} {g B n' : Nat} {k n : Int} {v : Value} {xs : List Value} (h : FBox W g k n) (ho : W.ownsRow B 5 1 v n' xs) (hg : W.grownBy W' v.ownBlock) : FBox W' g k n := by
  refine (hg.block g h.lt fun hv => ?_).trans h
  rcases ho.2 with ⟨rfl, _⟩ | ⟨g', cap, cur, rfl, _, hgg, _⟩
  · simp [Value.ownBlock] at hv
  · have : g = g' := by simpa [Value.ownBlock] using hv
    subst this
    rw [h] at hgg
    cases hgg
theorem be_1 (n : Nat) : beN 1 n = [n % 256] := rfl
theorem be_2 (n : Nat) : beN 2 n = [n / 256 % 256] ++ [n % 256] := rfl
theorem be_4 (n : Nat) : beN 4 n = [n / 16777216 % 256, n / 65536 % 256] ++ [n / 256 % 256] ++ [n % 256] := by
  show [n / 256 / 256 / 256 % 256] ++ [n / 256 / 256 % 256] ++ [n / 256 % 256] ++ [n % 256] = _
  simp only [Nat.div_div_eq_div_mul, Nat.reduceMul]
  rfl
theorem be_5 (n : Nat) : beN 5 n = [n / 4294967296 % 256] ++ [n / 16777216 % 256, n / 65536 % 256] ++ [n / 256 % 256] ++ [n % 256] := by
  show [n / 256 / 256 / 256 / 256 % 256] ++ [n / 256 / 256 / 256 % 256] ++ [n / 256 / 256 % 256] ++ [n / 256 % 256] ++ [n % 256] = _
  simp only [Nat.div_div_eq_div_mul, Nat.reduceMul]
  rfl
theorem zAn {W w0 : World} {ops : Array Oper} {rest : List Oper} {o : Oper} {a : Act} {Q : Exit → Act → World → Prop} {B g : Nat} {k n : Int} {v : Value} {F : List Nat} (hgd : o.guard = none) (s x : Operand)
    (ho : o.op = .call { callee := .builtin .append, args := #[s, x], argTypes := #[31, 31] }) (bs : List Nat) (m : Nat) (hm : m = W.heap.size) (hO : W.ownsRow B 5 1 v F.length (F.map byteV)) (hB : Below B w0 W) (hX : FBox W g k n)
    (hs : a.eval s = v) (hx : a.eval x = .slice (some ⟨m, 0, none⟩) bs.length bs.length) (hl : F.length + bs.length ≤ 1000) (hBs : B ≤ W.heap.size)
    (h : ∀ v' w', w'.ownsRow B 5 1 v' (F ++ bs).length ((F ++ bs).map byteV) → Below B w0 w' → FBox w' g k n → B ≤ w'.heap.size → wpList Tryz.prog ops Q rest (a.put o.dst v') w') :
    wpList Tryz.prog ops Q (o :: rest) a (W.alloc (.cells (bs.map byteV).toArray 5)) := by
  obtain ⟨i0, hi0, hz0, hz1, hz2⟩ := info_parts zAY
  subst hm
  have hh := heap_alloc_new W (.cells (bs.map byteV).toArray 5)
  refine wpList_append_own _ hgd s x 31 ho B 5 i0 (.int .u8 0) 1 1 Tryz.underlying31 hi0 hz0 hz1 hz2 rfl (by decide) v F.length (F.map byteV) hs (hO.alloc _) ⟨W.heap.size, 0, none⟩ bs.length bs.length (bs.map byteV) hx (by simp) ?_ (fun y hy => by obtain ⟨z, -, rfl⟩ := List.mem_map.1 hy; rfl) (by unfold maxLen; omega) (by omega) (by rw [World.size_alloc]; omega) ?_
  · intro t u hu
    rw [show Addr.add ⟨W.heap.size, 0, none⟩ t = ⟨W.heap.size, 0 + t, none⟩ from Go.WideShapes.add_plain .., Nat.zero_add]
    exact zAa hh (by simpa using hu)
  · intro v' w' h1 h2 _
    have hrow := fun k hk => (hO.lt k hk).1
    refine h v' w' (by rw [List.length_append, List.map_append]; exact h1) ((hB.alloc hBs _).grown h2 (by rw [World.size_alloc]; omega) hrow) ((hX.alloc _).grown (hO.alloc _) h2) ?_
    have := h2.size
    rw [World.size_alloc] at this
    omega
theorem zBx {w : World} (v : Value) (L : List Fld) (h : FldsAt w v L) (hL : L.length ≤ 100) (hl : LayF L) : Calls Tryz.prog 139 #[v] w fun e w' =>
    ∃ v', e = .returned v' ∧ w'.ownsRow w.heap.size 5 1 v' (bytesF L).length ((bytesF L).map byteV) ∧ Below w.heap.size w w' := by
  obtain ⟨i0, hi0, hz0, hz1, hz2⟩ := info_parts zAY
  obtain ⟨b, rfl, hc⟩ := h
  have HC := lhd hc
  have HT0 : Hid (bytesF (L.take 0) = []) := lhd rfl
  have HTS : Hid (∀ j, j < L.length → bytesF (L.take (j + 1)) = bytesF (L.take j) ++ beN (L.getD j noFld).1.toNat (L.getD j noFld).2.toNat) := lhd (zCN L)
  have HTE : Hid (bytesF (L.take L.length) = bytesF L) := lhd (by rw [List.take_length])
  have HLE : Hid (∀ j, (bytesF (L.take j)).length ≤ 5 * j) := lhd (zJk hl)
  have HLG : Hid (∀ j, j < L.length → ((L.getD j noFld).1 = 1 ∨ (L.getD j noFld).1 = 2 ∨ (L.getD j noFld).1 = 4 ∨ (L.getD j noFld).1 = 5) ∧ 0 ≤ (L.getD j noFld).2 ∧ (L.getD j noFld).2 ≤ 9223372036854775807) := lhd fun j hj => zGO hl hj
  clear hc hl
  go_enter Tryz.func139, Tryz.ntmps139
  go_wp2_with fail
  go_loopw [3, 8] (fun x i wr => ∃ j : Nat, j ≤ L.length ∧ i = .int .i64 (j : Int) ∧ wr.ownsRow w.heap.size 5 1 x (bytesF (L.take j)).length ((bytesF (L.take j)).map byteV) ∧ Below w.heap.size w wr) (fun _ i _ => L.length - (intOf i).toNat)
  case atStart => exact ⟨0, by omega, rfl, by rw [HT0.out]; exact World.ownsRow_nil _ _ _ _, Below.refl _ _⟩
  case round =>
    obtain ⟨j, hj, rfl, hown, hbel⟩ := hrel
    have HB := lhd hbel
    have HO := lhd hown
    by_cases hlt : j < L.length
    · have d1 : decide ((j : Int) < (L.length : Int)) = true := decide_eq_true (by omega)
      obtain ⟨q0, q1⟩ := HC.out j hlt
      have hlb := World.block_lt_of_cell? w _ q0
      have hlb2 : b < w.heap.size := hlb
      obtain ⟨hkk, n0, n1⟩ := HLG.out j hlt
      have hst := HTS.out j hlt
      have hle := HLE.out j
      obtain ⟨n, hn⟩ : ∃ n : Nat, (L.getD j noFld).2 = (n : Int) := ⟨(L.getD j noFld).2.toNat, by omega⟩
      rw [hn, Int.toNat_natCast] at hst
      have q1' : wr.cell? ⟨b, j * 2 + 1, none⟩ = some (.int .i64 (n : Int)) := by rw [HB.out.cell (p := ⟨b, j * 2 + 1, none⟩) hlb2, q1, hn]
      have q0' : wr.cell? ⟨b, j * 2, none⟩ = some (.int .i64 (L.getD j noFld).1) := by rw [HB.out.cell (p := ⟨b, j * 2, none⟩) hlb2, q0]
      have hn63 : n ≤ 9223372036854775807 := by omega
      generalize (L.getD j noFld).1 = k at *
      generalize hF0 : bytesF (L.take j) = F at *
      have HST := lhd hst
      have HSZ := lhd HB.out.size
      clear q0 q1 n0 n1 hst hn hown hbel hF0
      have HBX0 : Hid (FBox (wr.alloc (.cells #[.int .i64 k, .int .i64 (n : Int)] 229)) wr.heap.size k (n : Int)) := lhd (heap_alloc_new wr _)
      have HSZ0 : Hid (w.heap.size ≤ (wr.alloc (.cells #[.int .i64 k, .int .i64 (n : Int)] 229)).heap.size) := lhd (by rw [World.size_alloc]; exact Nat.le_succ_of_le HSZ.out)
      have HB0 := lhd (HB.out.alloc HSZ.out (.cells #[.int .i64 k, .int .i64 (n : Int)] 229))
      have HO0 := lhd (HO.out.alloc (.cells #[.int .i64 k, .int .i64 (n : Int)] 229))
      rcases hkk with rfl | rfl | rfl | rfl
      · rw [show ((1 : Int)).toNat = 1 from rfl, be_1] at HST
        obtain ⟨c1, hc1⟩ : ∃ c, n % 256 = c := ⟨_, rfl⟩
        rw [hc1] at HST
        have ec1 : (n : Int) % 256 = (c1 : Int) := by omega
        have lc1 : c1 < 256 := by omega
        clear hc1
        obtain ⟨p0, p1⟩ := HBX0.out.cell
        go_wp2_with (first
          | (at_builtin; refine zAn rfl (.tmp 47) (.tmp 51) rfl [c1] (wr.heap.size + 1) (by rw [World.size_alloc]) HO0.out HB0.out HBX0.out rfl rfl (by simp; omega) HSZ0.out ?_; intro v1 w1 ho1 hb1 hx1 hs1; obtain ⟨p0, p1⟩ := hx1.cell; have HO1 := lhd ho1; have HB1 := lhd hb1; have HX1 := lhd hx1; have HS1 := lhd hs1; clear ho1 hb1 hx1 hs1))
        have HOE := HO1.out
        (try simp only [List.append_assoc] at HOE HST)
        rw [← HST.out] at HOE
        have HOZ := lhd HOE
        clear HOE
        go_wp2
        go_roundw
        case rel => exact ⟨j + 1, hlt, by go_num, HOZ.out, HB1.out⟩
        case measure => simp [intOf]; omega
      · rw [show ((2 : Int)).toNat = 2 from rfl, be_2] at HST
        obtain ⟨c256, hc256⟩ : ∃ c, n / 256 % 256 = c := ⟨_, rfl⟩
        rw [hc256] at HST
        have ec256 : (n : Int) / 256 % 256 = (c256 : Int) := by omega
        have lc256 : c256 < 256 := by omega
        have gc256 : (n : Int) / 2 ^ 8 % 256 = (c256 : Int) := ec256
        obtain ⟨c1, hc1⟩ : ∃ c, n % 256 = c := ⟨_, rfl⟩
        rw [hc1] at HST
        have ec1 : (n : Int) % 256 = (c1 : Int) := by omega
        have lc1 : c1 < 256 := by omega
        clear hc256 hc1
        obtain ⟨p0, p1⟩ := HBX0.out.cell
        go_wp2_with (first
          | (at_builtin; refine zAn rfl (.tmp 40) (.tmp 45) rfl [c256] (wr.heap.size + 1) (by rw [World.size_alloc]) HO0.out HB0.out HBX0.out rfl rfl (by simp; omega) HSZ0.out ?_; intro v2 w2 ho2 hb2 hx2 hs2; obtain ⟨p0, p1⟩ := hx2.cell; have HO2 := lhd ho2; have HB2 := lhd hb2; have HX2 := lhd hx2; have HS2 := lhd hs2; clear ho2 hb2 hx2 hs2)
          | (at_builtin; refine zAn rfl (.tmp 47) (.tmp 51) rfl [c1] _ rfl HO2.out HB2.out HX2.out rfl rfl (by simp; omega) HS2.out ?_; intro v1 w1 ho1 hb1 hx1 hs1; obtain ⟨p0, p1⟩ := hx1.cell; have HO1 := lhd ho1; have HB1 := lhd hb1; have HX1 := lhd hx1; have HS1 := lhd hs1; clear ho1 hb1 hx1 hs1))
        have HOE := HO1.out
        (try simp only [List.append_assoc] at HOE HST)
        rw [← HST.out] at HOE
        have HOZ := lhd HOE
        clear HOE
        go_wp2
        go_roundw
        case rel => exact ⟨j + 1, hlt, by go_num, HOZ.out, HB1.out⟩
        case measure => simp [intOf]; omega
      · rw [show ((4 : Int)).toNat = 4 from rfl, be_4] at HST
        obtain ⟨c16777216, hc16777216⟩ : ∃ c, n / 16777216 % 256 = c := ⟨_, rfl⟩
        rw [hc16777216] at HST
        have ec16777216 : (n : Int) / 16777216 % 256 = (c16777216 : Int) := by omega
        have lc16777216 : c16777216 < 256 := by omega
        have gc16777216 : (n : Int) / 2 ^ 24 % 256 = (c16777216 : Int) := ec16777216
        obtain ⟨c65536, hc65536⟩ : ∃ c, n / 65536 % 256 = c := ⟨_, rfl⟩
        rw [hc65536] at HST
        have ec65536 : (n : Int) / 65536 % 256 = (c65536 : Int) := by omega
        have lc65536 : c65536 < 256 := by omega
        have gc65536 : (n : Int) / 2 ^ 16 % 256 = (c65536 : Int) := ec65536
        obtain ⟨c256, hc256⟩ : ∃ c, n / 256 % 256 = c := ⟨_, rfl⟩
        rw [hc256] at HST
        have ec256 : (n : Int) / 256 % 256 = (c256 : Int) := by omega
        have lc256 : c256 < 256 := by omega
        have gc256 : (n : Int) / 2 ^ 8 % 256 = (c256 : Int) := ec256
        obtain ⟨c1, hc1⟩ : ∃ c, n % 256 = c := ⟨_, rfl⟩
        rw [hc1] at HST
        have ec1 : (n : Int) % 256 = (c1 : Int) := by omega
        have lc1 : c1 < 256 := by omega
        clear hc16777216 hc65536 hc256 hc1
        obtain ⟨p0, p1⟩ := HBX0.out.cell
        go_wp2_with (first
          | (at_builtin; refine zAn rfl (.tmp 29) (.tmp 38) rfl [c16777216, c65536] (wr.heap.size + 1) (by rw [World.size_alloc]) HO0.out HB0.out HBX0.out rfl rfl (by simp; omega) HSZ0.out ?_; intro v4 w4 ho4 hb4 hx4 hs4; obtain ⟨p0, p1⟩ := hx4.cell; have HO4 := lhd ho4; have HB4 := lhd hb4; have HX4 := lhd hx4; have HS4 := lhd hs4; clear ho4 hb4 hx4 hs4)
          | (at_builtin; refine zAn rfl (.tmp 40) (.tmp 45) rfl [c256] _ rfl HO4.out HB4.out HX4.out rfl rfl (by simp; omega) HS4.out ?_; intro v2 w2 ho2 hb2 hx2 hs2; obtain ⟨p0, p1⟩ := hx2.cell; have HO2 := lhd ho2; have HB2 := lhd hb2; have HX2 := lhd hx2; have HS2 := lhd hs2; clear ho2 hb2 hx2 hs2)
          | (at_builtin; refine zAn rfl (.tmp 47) (.tmp 51) rfl [c1] _ rfl HO2.out HB2.out HX2.out rfl rfl (by simp; omega) HS2.out ?_; intro v1 w1 ho1 hb1 hx1 hs1; obtain ⟨p0, p1⟩ := hx1.cell; have HO1 := lhd ho1; have HB1 := lhd hb1; have HX1 := lhd hx1; have HS1 := lhd hs1; clear ho1 hb1 hx1 hs1))
        have HOE := HO1.out
        (try simp only [List.append_assoc] at HOE HST)
        rw [← HST.out] at HOE
        have HOZ := lhd HOE
        clear HOE
        go_wp2
        go_roundw
        case rel => exact ⟨j + 1, hlt, by go_num, HOZ.out, HB1.out⟩
        case measure => simp [intOf]; omega
      · rw [show ((5 : Int)).toNat = 5 from rfl, be_5] at HST
        obtain ⟨c4294967296, hc4294967296⟩ : ∃ c, n / 4294967296 % 256 = c := ⟨_, rfl⟩
        rw [hc4294967296] at HST
        have ec4294967296 : (n : Int) / 4294967296 % 256 = (c4294967296 : Int) := by omega
        have lc4294967296 : c4294967296 < 256 := by omega
        have gc4294967296 : (n : Int) / 2 ^ 32 % 256 = (c4294967296 : Int) := ec4294967296
        obtain ⟨c16777216, hc16777216⟩ : ∃ c, n / 16777216 % 256 = c := ⟨_, rfl⟩
        rw [hc16777216] at HST
        have ec16777216 : (n : Int) / 16777216 % 256 = (c16777216 : Int) := by omega
        have lc16777216 : c16777216 < 256 := by omega
        have gc16777216 : (n : Int) / 2 ^ 24 % 256 = (c16777216 : Int) := ec16777216
        obtain ⟨c65536, hc65536⟩ : ∃ c, n / 65536 % 256 = c := ⟨_, rfl⟩
        rw [hc65536] at HST
        have ec65536 : (n : Int) / 65536 % 256 = (c65536 : Int) := by omega
        have lc65536 : c65536 < 256 := by omega
        have gc65536 : (n : Int) / 2 ^ 16 % 256 = (c65536 : Int) := ec65536
        obtain ⟨c256, hc256⟩ : ∃ c, n / 256 % 256 = c := ⟨_, rfl⟩
        rw [hc256] at HST
        have ec256 : (n : Int) / 256 % 256 = (c256 : Int) := by omega
        have lc256 : c256 < 256 := by omega
        have gc256 : (n : Int) / 2 ^ 8 % 256 = (c256 : Int) := ec256
        obtain ⟨c1, hc1⟩ : ∃ c, n % 256 = c := ⟨_, rfl⟩
        rw [hc1] at HST
        have ec1 : (n : Int) % 256 = (c1 : Int) := by omega
        have lc1 : c1 < 256 := by omega
        clear hc4294967296 hc16777216 hc65536 hc256 hc1
        obtain ⟨p0, p1⟩ := HBX0.out.cell
        go_wp2_with (first
          | (at_builtin; refine zAn rfl (.tmp 22) (.tmp 27) rfl [c4294967296] (wr.heap.size + 1) (by rw [World.size_alloc]) HO0.out HB0.out HBX0.out rfl rfl (by simp; omega) HSZ0.out ?_; intro v5 w5 ho5 hb5 hx5 hs5; obtain ⟨p0, p1⟩ := hx5.cell; have HO5 := lhd ho5; have HB5 := lhd hb5; have HX5 := lhd hx5; have HS5 := lhd hs5; clear ho5 hb5 hx5 hs5)
          | (at_builtin; refine zAn rfl (.tmp 29) (.tmp 38) rfl [c16777216, c65536] _ rfl HO5.out HB5.out HX5.out rfl rfl (by simp; omega) HS5.out ?_; intro v4 w4 ho4 hb4 hx4 hs4; obtain ⟨p0, p1⟩ := hx4.cell; have HO4 := lhd ho4; have HB4 := lhd hb4; have HX4 := lhd hx4; have HS4 := lhd hs4; clear ho4 hb4 hx4 hs4)
          | (at_builtin; refine zAn rfl (.tmp 40) (.tmp 45) rfl [c256] _ rfl HO4.out HB4.out HX4.out rfl rfl (by simp; omega) HS4.out ?_; intro v2 w2 ho2 hb2 hx2 hs2; obtain ⟨p0, p1⟩ := hx2.cell; have HO2 := lhd ho2; have HB2 := lhd hb2; have HX2 := lhd hx2; have HS2 := lhd hs2; clear ho2 hb2 hx2 hs2)
          | (at_builtin; refine zAn rfl (.tmp 47) (.tmp 51) rfl [c1] _ rfl HO2.out HB2.out HX2.out rfl rfl (by simp; omega) HS2.out ?_; intro v1 w1 ho1 hb1 hx1 hs1; obtain ⟨p0, p1⟩ := hx1.cell; have HO1 := lhd ho1; have HB1 := lhd hb1; have HX1 := lhd hx1; have HS1 := lhd hs1; clear ho1 hb1 hx1 hs1))
        have HOE := HO1.out
        (try simp only [List.append_assoc] at HOE HST)
        rw [← HST.out] at HOE
        have HOZ := lhd HOE
        clear HOE
        go_wp2
        go_roundw
        case rel => exact ⟨j + 1, hlt, by go_num, HOZ.out, HB1.out⟩
        case measure => simp [intOf]; omega
    · obtain rfl : j = L.length := by omega
      have d1 : decide ((L.length : Int) < (L.length : Int)) = false := decide_eq_false (by omega)
      rw [HTE.out] at HO
      clear hown hbel
      go_wp2
      go_ret
      exact ⟨_, rfl, HO.out, HB.out⟩
end

section
open Go.RowKit Go.Extern.Stop Go.Stop Go.Extern
theorem zMB {P : Program} {o : Oper} {a : Act} {V : World} {cs : Array Value} (ty : TypeId) (x : Operand) (ho : o.op = .load ty x) (g : Nat) (hx : a.eval x = .pointer (some ⟨g, 0, none⟩)) (t : TypeId) (fr : Nat × Nat) (d : TypeDesc)
    (hg : V.heap[g]? = some (.cells cs t fr)) (hu : P.underlying ty = some d) (hd : (match d with | .struct _ | .array _ _ => true | _ => false) = true) (hi : (P.info? ty).map (·.size) = some cs.size) : (execOp a.eval o).run P V = .ok (.value (.agg cs)) V := by
  unfold execOp
  simp only [ho, hx, Instr.loadAt, Instr.sureAddr, Sem.run_bind, Sem.run_pure, Result.andThen_ok, run_loadVar_row V g t ty cs fr d hg hu hd hi]
def headF (p : Pkt) : List Fld := [(1, p.kind), (2, p.session), (1, p.layer), (5, p.tick)]
def ownA (p : Pkt) : List Fld := [(4, p.size), (1, p.symbol), (1, p.blocks), (1, p.long), (1, p.short), (1, p.layers), (2, p.esis - 1), (2, p.base), (2, p.length)]
def ownD (p : Pkt) : List Fld := [(1, if p.burst then p.sync + 1 + 128 else p.sync + 1), (2, p.many), (2, p.place), (1, p.block), (2, p.esi)]
def ownF (p : Pkt) : List Fld := if p.kind = 2 then ownA p else ownD p
theorem zII {p : Pkt} (hr : RangedP p) : LayF (headF p) := by
  have := hr.k1; have := hr.k2; have := hr.s1; have := hr.s2; have := hr.l1; have := hr.l2; have := hr.t1; have := hr.t2
  intro x hx
  simp only [headF, List.mem_cons, List.not_mem_nil, or_false] at hx
  rcases hx with rfl | rfl | rfl | rfl <;> refine ⟨by first | exact .inl rfl | exact .inr (.inl rfl) | exact .inr (.inr (.inl rfl)) | exact .inr (.inr (.inr rfl)), ?_, ?_⟩ <;> (try simp only) <;> omega
theorem zK2 {p : Pkt} (hk : p.kind = 2) (hr : RangedP p) (hf : FormP p) : LayF (ownA p) := by
  obtain ⟨z0, z1, ⟨y1, y2⟩, ⟨e1, e2⟩, ⟨b1, b2⟩, ⟨n1, n2⟩⟩ := hr.a hk
  obtain ⟨f1, f2, f3, f4, f5, f6, f7, f8⟩ := hf.a hk
  obtain ⟨s', b', n', l', q', g1, g2, g3, g4, g5, hp⟩ := zDS f8
  have q1 := hp.b64; have q2 := hp.n16; have q3 := hp.lt; have q4 := hp.q128
  intro x hx
  simp only [ownA, List.mem_cons, List.not_mem_nil, or_false] at hx
  rcases hx with rfl | rfl | rfl | rfl | rfl | rfl | rfl | rfl | rfl <;> refine ⟨by first | exact .inl rfl | exact .inr (.inl rfl) | exact .inr (.inr (.inl rfl)) | exact .inr (.inr (.inr rfl)), ?_, ?_⟩ <;> (try simp only) <;> omega
theorem zKl {p : Pkt} (hk : p.kind = 1) (hr : RangedP p) : LayF (ownD p) := by
  obtain ⟨⟨y1, y2⟩, ⟨m1, m2⟩, ⟨c1, c2⟩, ⟨b1, b2⟩, ⟨e1, e2⟩⟩ := hr.d hk
  intro x hx
  simp only [ownD, List.mem_cons, List.not_mem_nil, or_false] at hx
  rcases hx with rfl | rfl | rfl | rfl | rfl <;> refine ⟨by first | exact .inl rfl | exact .inr (.inl rfl) | exact .inr (.inr (.inl rfl)) | exact .inr (.inr (.inr rfl)), ?_, ?_⟩ <;> (try simp only) <;> (try split) <;> omega
theorem zLJ {p : Pkt} (hr : RangedP p) (hf : FormP p) : bodyP p = bytesF (headF p) ++ (bytesF (ownF p) ++ p.data) := by
  have hh : bytesF (headF p) = wrHeadB p := by simp [bytesF, headF, wrHeadB]
  rw [hh]
  unfold bodyP ownF
  by_cases hk : p.kind = 1
  · rw [if_pos hk, if_neg (by omega)]
    obtain ⟨⟨y1, y2⟩, -⟩ := hr.d hk
    unfold bodyD
    have e : (if p.burst then p.sync + 1 + 128 else p.sync + 1).toNat = (p.sync + 1).toNat + (if p.burst then 128 else 0) := by
      cases p.burst <;> simp <;> omega
    simp [bytesF, ownD, e]
  · have hk2 : p.kind = 2 := by have := hr.k1; have := hr.k2; omega
    rw [if_neg hk, if_pos hk2]
    obtain ⟨-, -, -, -, -, -, f7, -⟩ := hf.a hk2
    unfold bodyA
    simp [bytesF, ownA, f7]
theorem zHs {w : World} (p : Pkt) (D : Value) (hk : p.kind = 2) (hr : RangedP p) (hf : FormP p) : Calls Tryz.prog 142 #[pktV p D] w fun e w' =>
    ∃ v', e = .returned v' ∧ w'.ownsRow w.heap.size 5 1 v' (bytesF (ownA p)).length ((bytesF (ownA p)).map byteV) ∧ Below w.heap.size w w' := by
  obtain ⟨W1, hW1, hb1, hx1⟩ := zAz w p D
  have HB := lhd hb1
  have HW := lhd hW1
  have HLYa := lhd (zK2 hk hr hf)
  have hwe : IntKind.i64.wrap (p.esis - 1) = p.esis - 1 := by
    obtain ⟨-, -, -, ⟨e1, e2⟩, -⟩ := hr.a hk
    exact IntWalk.i64_in _ (by omega)
  have k1 : (p.kind == 2) = true := by simp [hk]
  obtain ⟨Va, hVa⟩ : ∃ V, V = W1.alloc (.cells #[.int .i64 4, .int .i64 p.size, .int .i64 1, .int .i64 p.symbol, .int .i64 1, .int .i64 p.blocks, .int .i64 1, .int .i64 p.long, .int .i64 1, .int .i64 p.short, .int .i64 1, .int .i64 p.layers, .int .i64 2, .int .i64 (p.esis - 1), .int .i64 2, .int .i64 p.base, .int .i64 2, .int .i64 p.length] 229) := ⟨_, rfl⟩
  have HVa := lhd hVa
  have HLa : Hid (Calls Tryz.prog 139 #[.slice (some ⟨W1.heap.size, 0, none⟩) 9 9] Va fun e w' => ∃ v', e = .returned v' ∧ w'.ownsRow Va.heap.size 5 1 v' (bytesF (ownA p)).length ((bytesF (ownA p)).map byteV) ∧ Below Va.heap.size Va w') := lhd (zBx _ (ownA p) (by rw [hVa]; exact zCG W1 (ownA p) 229) (by show 9 ≤ 100; decide) HLYa.out)
  have HBVa : Hid (Below w.heap.size w Va) := lhd (by rw [hVa]; exact HB.out.alloc HB.out.size _)
  clear hVa
  obtain ⟨c0, -, -, -, -, -, -, -, -, -, -, c11, c12, c13, c14, c15, c16, c17, c18, c19⟩ := hx1.cells
  unfold pktC at HW
  unfold pktV pktC
  generalize bytesF (ownA p) = Z at *
  clear hW1 hb1 hx1 hk hr hf HLYa
  go_enter Tryz.func142, Tryz.ntmps142
  go_upto_region 1 with fail
  rw [← HW.out]
  go_wp2_with fail
  rw [← HVa.out]
  refine HLa.out.mono ?_
  rintro e w2 ⟨v2, rfl, ho2, hb2⟩
  have HB2 := lhd (HBVa.out.trans (hb2.mono HBVa.out.size))
  have HO2 := lhd (zAd ho2 HBVa.out.size)
  clear ho2 hb2
  go_wp2
  go_ret
  exact ⟨_, rfl, HO2.out, HB2.out⟩
theorem zIb {w : World} (p : Pkt) (D : Value) (hk : p.kind = 1) (hr : RangedP p) : Calls Tryz.prog 142 #[pktV p D] w fun e w' =>
    ∃ v', e = .returned v' ∧ w'.ownsRow w.heap.size 5 1 v' (bytesF (ownD p)).length ((bytesF (ownD p)).map byteV) ∧ Below w.heap.size w w' := by
  obtain ⟨W1, hW1, hb1, hx1⟩ := zAz w p D
  have HB := lhd hb1
  have HW := lhd hW1
  have HLY := lhd (zKl hk hr)
  obtain ⟨⟨y1, y2⟩, -⟩ := hr.d hk
  have hws : IntKind.i64.wrap (p.sync + 1) = p.sync + 1 := IntWalk.i64_in _ (by omega)
  have hwb : IntKind.i64.wrap (p.sync + 1 + 128) = p.sync + 1 + 128 := IntWalk.i64_in _ (by omega)
  have k1 : (p.kind == 2) = false := by simp [hk]
  obtain ⟨c0, -, -, -, c4, c5, c6, c7, c8, c9, -⟩ := hx1.cells
  unfold pktC at HW
  unfold pktV pktC
  cases hbu : p.burst with
  | true =>
    have HOW : Hid (ownD p = [(1, (p.sync + 1 + 128)), (2, p.many), (2, p.place), (1, p.block), (2, p.esi)]) := lhd (by unfold ownD; rw [hbu]; rfl)
    have HLYa := HLY
    rw [HOW.out] at HLYa ⊢
    obtain ⟨Va, hVa⟩ : ∃ V, V = W1.alloc (.cells #[.int .i64 1, .int .i64 (p.sync + 1 + 128), .int .i64 2, .int .i64 p.many, .int .i64 2, .int .i64 p.place, .int .i64 1, .int .i64 p.block, .int .i64 2, .int .i64 p.esi] 229) := ⟨_, rfl⟩
    have HVa := lhd hVa
    have HLa : Hid (Calls Tryz.prog 139 #[.slice (some ⟨W1.heap.size, 0, none⟩) 5 5] Va fun e w' => ∃ v', e = .returned v' ∧ w'.ownsRow Va.heap.size 5 1 v' (bytesF ([(1, (p.sync + 1 + 128)), (2, p.many), (2, p.place), (1, p.block), (2, p.esi)])).length ((bytesF ([(1, (p.sync + 1 + 128)), (2, p.many), (2, p.place), (1, p.block), (2, p.esi)])).map byteV) ∧ Below Va.heap.size Va w') := lhd (zBx _ ([(1, (p.sync + 1 + 128)), (2, p.many), (2, p.place), (1, p.block), (2, p.esi)]) (by rw [hVa]; exact zCG W1 ([(1, (p.sync + 1 + 128)), (2, p.many), (2, p.place), (1, p.block), (2, p.esi)]) 229) (by show 5 ≤ 100; decide) HLYa.out)
    have HBVa : Hid (Below w.heap.size w Va) := lhd (by rw [hVa]; exact HB.out.alloc HB.out.size _)
    clear hVa
    rw [hbu] at HW c4
    generalize bytesF [(1, (p.sync + 1 + 128)), (2, p.many), (2, p.place), (1, p.block), (2, p.esi)] = Z at *
    clear hW1 hb1 hx1 hk hr HLYa HLY HOW hbu y1 y2
    go_enter Tryz.func142, Tryz.ntmps142
    go_upto_region 1 with fail
    rw [← HW.out]
    go_wp2_with fail
    rw [← HVa.out]
    refine HLa.out.mono ?_
    rintro e w2 ⟨v2, rfl, ho2, hb2⟩
    have HB2 := lhd (HBVa.out.trans (hb2.mono HBVa.out.size))
    have HO2 := lhd (zAd ho2 HBVa.out.size)
    clear ho2 hb2
    go_wp2
    go_ret
    exact ⟨_, rfl, HO2.out, HB2.out⟩
  | false =>
    have HOW : Hid (ownD p = [(1, (p.sync + 1)), (2, p.many), (2, p.place), (1, p.block), (2, p.esi)]) := lhd (by unfold ownD; rw [hbu]; rfl)
    have HLYa := HLY
    rw [HOW.out] at HLYa ⊢
    obtain ⟨Va, hVa⟩ : ∃ V, V = W1.alloc (.cells #[.int .i64 1, .int .i64 (p.sync + 1), .int .i64 2, .int .i64 p.many, .int .i64 2, .int .i64 p.place, .int .i64 1, .int .i64 p.block, .int .i64 2, .int .i64 p.esi] 229) := ⟨_, rfl⟩
    have HVa := lhd hVa
    have HLa : Hid (Calls Tryz.prog 139 #[.slice (some ⟨W1.heap.size, 0, none⟩) 5 5] Va fun e w' => ∃ v', e = .returned v' ∧ w'.ownsRow Va.heap.size 5 1 v' (bytesF ([(1, (p.sync + 1)), (2, p.many), (2, p.place), (1, p.block), (2, p.esi)])).length ((bytesF ([(1, (p.sync + 1)), (2, p.many), (2, p.place), (1, p.block), (2, p.esi)])).map byteV) ∧ Below Va.heap.size Va w') := lhd (zBx _ ([(1, (p.sync + 1)), (2, p.many), (2, p.place), (1, p.block), (2, p.esi)]) (by rw [hVa]; exact zCG W1 ([(1, (p.sync + 1)), (2, p.many), (2, p.place), (1, p.block), (2, p.esi)]) 229) (by show 5 ≤ 100; decide) HLYa.out)
    have HBVa : Hid (Below w.heap.size w Va) := lhd (by rw [hVa]; exact HB.out.alloc HB.out.size _)
    clear hVa
    rw [hbu] at HW c4
    generalize bytesF [(1, (p.sync + 1)), (2, p.many), (2, p.place), (1, p.block), (2, p.esi)] = Z at *
    clear hW1 hb1 hx1 hk hr HLYa HLY HOW hbu y1 y2
    go_enter Tryz.func142, Tryz.ntmps142
    go_upto_region 1 with fail
    rw [← HW.out]
    go_wp2_with fail
    rw [← HVa.out]
    refine HLa.out.mono ?_
    rintro e w2 ⟨v2, rfl, ho2, hb2⟩
    have HB2 := lhd (HBVa.out.trans (hb2.mono HBVa.out.size))
    have HO2 := lhd (zAd ho2 HBVa.out.size)
    clear ho2 hb2
    go_wp2
    go_ret
    exact ⟨_, rfl, HO2.out, HB2.out⟩
theorem zIz {w : World} (p : Pkt) (D : Value) (hr : RangedP p) (hf : FormP p) : Calls Tryz.prog 142 #[pktV p D] w fun e w' =>
    ∃ v', e = .returned v' ∧ w'.ownsRow w.heap.size 5 1 v' (bytesF (ownF p)).length ((bytesF (ownF p)).map byteV) ∧ Below w.heap.size w w' := by
  unfold ownF
  by_cases hk : p.kind = 2
  · rw [if_pos hk]; exact zHs p D hk hr hf
  · rw [if_neg hk]; exact zIb p D (by have := hr.k1; have := hr.k2; omega) hr
theorem zJD {w : World} {x y z : Value} {a b c : List Value} (hx : ListAt id w x a) (hy : ListAt id w y b) (hz : ListAt id w z c) : MatAt id (w.alloc (.cells #[x, y, z] 31)) (.slice (some ⟨w.heap.size, 0, none⟩) 3 3) [a, b, c] := by
  have hb : Below w.heap.size w (w.alloc (.cells #[x, y, z] 31)) := (Below.refl _ _).alloc (Nat.le_refl _) _
  refine ⟨[x, y, z], ListAt.of_owns (f := id) (l := [x, y, z]) (zAq (base := 0) (n := 3) (g := w.heap.size) (e := 31) (xs := [x, y, z].map id) (Nat.zero_le _) rfl (by decide) (heap_alloc_new w _)), rfl, fun i => ?_⟩
  match i with
  | 0 => exact hx.mono hb
  | 1 => exact hy.mono hb
  | 2 => exact hz.mono hb
  | i + 3 => exact ListAt.nil _ _
theorem zNA : WrPutC := fun w p D hD hF => by
  obtain ⟨W1, hW1, hb1, hx1⟩ := zAz w p D
  have HB := lhd hb1
  have HW := lhd hW1
  have HX := lhd hx1
  have hdl := hD.len
  have HD := lhd (hD.mono hb1)
  obtain ⟨ad, cd, rfl, -, -, -⟩ := hD
  have HCK : Hid (Calls Tryz.prog 138 #[.agg (pktC p (.slice ad p.data.length cd))] W1 fun e w' => ∃ E, e = .returned E ∧ ErrAns (ckN p) nameWrCheck w' E ∧ Below W1.heap.size W1 w') := lhd (zLp _ p _ HD.out hF)
  have HOWN : Hid (ckN p = 0 → ∀ V : World, Calls Tryz.prog 142 #[.agg (pktC p (.slice ad p.data.length cd))] V fun e w' => ∃ v', e = .returned v' ∧ w'.ownsRow V.heap.size 5 1 v' (bytesF (ownF p)).length ((bytesF (ownF p)).map byteV) ∧ Below V.heap.size V w') := lhd fun h V => zIz p _ (ckN_zero.1 h).1 (ckN_zero.1 h).2
  have HOCT := lhd hF.octs
  unfold pktC at HW HCK
  unfold pktV
  clear hW1 hb1 hx1 hF
  go_enter Tryz.func105, Tryz.ntmps105
  unfold pktC
  go_upto_region 1 with fail
  rw [← HW.out]
  go_wp2_with ((with_reducible show wpList _ _ _ (⟨some 6, _, _, _, _, _⟩ :: _) _ _); refine wpList_load_row rfl 63 (.tmp 1) rfl w.heap.size rfl 63 (pktC p (.slice ad p.data.length cd)) (0, 0) _ HX.out Tryz.underlying63 rfl (by kernel_rfl) ?_; unfold pktC)
  refine HCK.out.mono ?_
  rintro e w2 ⟨E, rfl, hE, hb2⟩
  have HB2 := lhd (HB.out.trans (hb2.mono HB.out.size))
  have HX2 := lhd (HX.out.mono hb2)
  have HD2 := lhd (HD.out.mono hb2)
  rcases hE with ⟨h0, rfl⟩ | ⟨h0, hE⟩
  · obtain ⟨hr, hf⟩ := ckN_zero.1 h0
    have HZ := lhd h0
    have HOW := lhd (HOWN.out h0)
    have HLYh := lhd (zII hr)
    have HBY := lhd (zLJ hr hf)
    have HLE0 := lhd (zLt hr hf)
    have HPE : Hid (putP p = bodyP p ++ le4 (crcSum (bodyP p))) := lhd rfl
    have HOC := lhd (zET HOCT.out)
    clear hb2 h0 HOWN hr hf
    obtain ⟨Vh, hVh⟩ : ∃ V, V = w2.alloc (.cells #[.int .i64 1, .int .i64 p.kind, .int .i64 2, .int .i64 p.session, .int .i64 1, .int .i64 p.layer, .int .i64 5, .int .i64 p.tick] 229) := ⟨_, rfl⟩
    have HVh := lhd hVh
    have HLh : Hid (Calls Tryz.prog 139 #[.slice (some ⟨w2.heap.size, 0, none⟩) 4 4] Vh fun e w' => ∃ v', e = .returned v' ∧ w'.ownsRow Vh.heap.size 5 1 v' (bytesF (headF p)).length ((bytesF (headF p)).map byteV) ∧ Below Vh.heap.size Vh w') := lhd (zBx _ (headF p) (by rw [hVh]; exact zCG w2 (headF p) 229) (by show 4 ≤ 100; decide) HLYh.out)
    have HBVh : Hid (Below w.heap.size w Vh) := lhd (by rw [hVh]; exact HB2.out.alloc HB2.out.size _)
    clear hVh
    have HVB : Hid (Below w2.heap.size w2 Vh) := lhd (by rw [HVh.out]; exact (Below.refl _ _).alloc (Nat.le_refl _) _)
    obtain ⟨c0, c1, c2, c3, -⟩ := HX2.out.cells
    go_wp2_with fail
    rw [← HVh.out]
    refine HLh.out.mono ?_
    rintro e W4 ⟨v4, rfl, ho4, hb4⟩
    have HB4 := lhd (HBVh.out.trans (hb4.mono HBVh.out.size))
    have HB24 := lhd (HVB.out.trans (hb4.mono HVB.out.size))
    have HX4 := lhd (HX2.out.mono HB24.out)
    have HD4 := lhd (HD2.out.mono HB24.out)
    have HH4 := lhd (ListAt.of_owns (f := byteV) ho4)
    obtain ⟨ah, ch, hhe, -, -⟩ := zAe ho4
    subst hhe
    have HXC : Hid (∀ V, Below W4.heap.size W4 V → PktCells V w.heap.size p (.slice ad p.data.length cd)) := lhd fun V hV => (HX4.out.mono hV).cells
    have HFL : Hid ([(bytesF (headF p)).map byteV, (bytesF (ownF p)).map byteV, p.data.map byteV].flatten = (bytesF (headF p) ++ (bytesF (ownF p) ++ p.data)).map byteV) := lhd (by simp)
    have HONE : Hid (∀ l ∈ [(bytesF (headF p)).map byteV, (bytesF (ownF p)).map byteV, p.data.map byteV], ∀ y ∈ l, y.oneCell' = true) := lhd (by
      intro r hr y hy
      simp only [List.mem_cons, List.not_mem_nil, or_false] at hr
      rcases hr with rfl | rfl | rfl <;> · obtain ⟨z, -, rfl⟩ := List.mem_map.1 hy; rfl)
    have HTOT : Hid ([(bytesF (headF p)).map byteV, (bytesF (ownF p)).map byteV, p.data.map byteV].flatten.length ≤ 140737488351300) := lhd (by rw [HFL.out, ← HBY.out, List.length_map]; have := HLE0.out; omega)
    have HLE : Hid ((bodyP p).length ≤ 140737488351232) := lhd (by have := HLE0.out; omega)
    have HPL : Hid ((putP p).length = (bodyP p).length + 4) := lhd (by unfold putP; rw [List.length_append, zH2])
    clear ho4 hb4 c0 c1 c2 c3
    go_upto_region 5 with fail
    have HBD : Below W4.heap.size W4 W4.drew := (Below.refl _ _).drew
    refine wp_region_held_drew (S := fun V => Below W4.heap.size W4 V) (by kernel_rfl) HBD (fun _ => ?_)
    (refine wpAnyH_take (i := 0) (v := ?_) rfl (by kernel_rfl) (by kernel_rfl) (by kernel_rfl) (fun _ _ _ h => h) (Or.inl ⟨by rfl, ?_⟩) HBD ?_; rotate_left; (focus (intro V hV; go_simp; first | done | with_reducible rfl)); (try simp only [nrz, Act.put]); refine wpAnyH_take (i := 3) (v := ?_) rfl (by kernel_rfl) (by kernel_rfl) (by kernel_rfl) (fun _ _ _ h => h) (Or.inl ⟨by rfl, ?_⟩) HBD ?_; rotate_left; (focus (intro V hV; go_simp; first | done | with_reducible rfl)); (try simp only [nrz, Act.put]); refine wpAnyH_take (i := 1) (v := (.agg (pktC p (.slice ad p.data.length cd)))) rfl (by kernel_rfl) (by kernel_rfl) (by kernel_rfl) (fun _ _ _ h => h) (Or.inl ⟨by rfl, ?_⟩) HBD ?_; (focus (intro V hV; exact zMB 63 (.tmp 1) (by rfl) w.heap.size (by rfl) 63 (0, 0) _ (HX4.out.mono hV) Tryz.underlying63 rfl (by kernel_rfl))); (try simp only [nrz, Act.put]); refine wpAnyH_take (i := 4) (v := (.slice ad p.data.length cd)) rfl (by kernel_rfl) (by kernel_rfl) (by kernel_rfl) (fun _ _ _ h => h) (Or.inl ⟨by rfl, ?_⟩) HBD ?_; (focus (intro V hV; have c10 := (HXC.out V hV).c10; go_simp)); (try simp only [nrz, Act.put]); refine wpAnyH_ready (rs := [2]) (by kernel_rfl) (by simp) ?_; refine AllReadyH.cons rfl (fun K hK => ?_) (AllReadyH.nil); go_simp; go_at_call 142; (with_reducible refine (HOW.out _).mono ?_); rintro e w5 ⟨v5, rfl, ho5, hb5⟩; have HS5 : Below W4.heap.size W4 w5 := Below.trans HBD (hb5.mono (Below.size HBD)); obtain ⟨ao, co, hoe, -, -⟩ := zAe ho5; subst hoe; have HL5 := lhd (ListAt.of_owns (f := byteV) ho5).vals1; have HH5 := lhd (HH4.out.mono HS5).vals1; have HD5 := lhd (HD4.out.mono HS5).vals1; clear hb5 ho5; refine Shut.out hK _ _ HS5 (fun _ => ?_); clear hK K; (try simp only [nrz, Act.put]); refine wpAnyH_ready (rs := [5]) (by kernel_rfl) (by simp) ?_; refine AllReadyH.cons rfl (fun K hK => ?_) (AllReadyH.nil); go_simp; have HM := lhd (zJD HH5.out HL5.out HD5.out); have HS6 : Below W4.heap.size W4 (w5.alloc (.cells #[.slice ah (bytesF (headF p)).length ch, .slice ao (bytesF (ownF p)).length co, .slice ad p.data.length cd] 31)) := Below.alloc HS5 (Below.size HS5) _; refine Shut.out hK _ _ HS6 (fun _ => ?_); clear hK K; (try simp only [nrz, Act.put]); refine wpAnyH_ready (rs := [6]) (by kernel_rfl) (by simp) ?_; refine AllReadyH.cons rfl (fun K hK => ?_) (AllReadyH.nil); go_simp; go_at_call 141; (with_reducible refine (zCS _ _ HM.out HONE.out (by simp) HTOT.out).mono ?_); rintro e w7 ⟨v7, rfl, ho7, hb7⟩; have HS7 : Below W4.heap.size W4 w7 := Below.trans HS6 (hb7.mono (Below.size HS6)); rw [HFL.out, ← HBY.out, List.length_map] at ho7; have HL7 := lhd (ListAt.of_owns (f := byteV) ho7); have HA := lhd (zNm _ _ _ HL7.out HOC.out HLE.out); clear ho7 hb7; refine Shut.out hK _ _ HS7 (fun _ => ?_); clear hK K; (try simp only [nrz, Act.put]); refine wpAnyH_ready (rs := [7]) (by kernel_rfl) (by simp) ?_; refine AllReadyH.cons rfl (fun K hK => ?_) (AllReadyH.nil); go_simp; go_at_call 140; (with_reducible refine HA.out.mono ?_); rintro e w8 ⟨v8, rfl, ho8, hb8⟩; have HS8 : Below W4.heap.size W4 w8 := Below.trans HS7 (hb8.mono (Below.size HS7)); have HO8 := lhd (zAd ho8 (Nat.le_trans HB4.out.size (Below.size HS7))); clear ho8 hb8; refine Shut.out hK _ _ HS8 (fun _ => ?_); clear hK K; (try simp only [nrz, Act.put]); refine wpAnyH_take (i := 8) (v := ?_) rfl (by kernel_rfl) (by kernel_rfl) (by kernel_rfl) (fun _ _ _ h => h) (Or.inl ⟨by rfl, ?_⟩) HS8 ?_; rotate_left; (focus (intro V hV; go_simp; first | done | with_reducible rfl)); (try simp only [nrz, Act.put]); refine wpAnyH_take (i := 9) (v := ?_) rfl (by kernel_rfl) (by kernel_rfl) (by kernel_rfl) (fun _ _ _ h => h) (Or.inl ⟨by rfl, ?_⟩) HS8 ?_; rotate_left; (focus (intro V hV; go_simp; first | done | with_reducible rfl)); (try simp only [nrz, Act.put]))
    all_goals refine wpAnyH_done (by kernel_rfl) ?_ _
    all_goals
      go_wp2
      go_ret2
      refine ⟨HB4.out.trans (HS8.mono HB4.out.size), .inr ⟨HZ.out, _, rfl, ?_⟩⟩
      rw [HPL.out, HPE.out]
      exact HO8.out
  · have HE := lhd (show ErrAns (ckN p) nameWrCheck w2 E from .inr ⟨h0, hE⟩)
    have HN := lhd h0
    obtain ⟨u, v, rfl⟩ := HE.out.some h0
    clear hb2 h0 hE
    go_wp2_with fail
    refine (zD3 nameWrPut nameWrCheck (ckN p) _ _ HN.out HE.out).mono ?_
    rintro e w3 ⟨E', rfl, hc, hb3⟩
    have HC := lhd hc
    have HB3 := lhd (HB2.out.trans (hb3.mono HB2.out.size))
    clear hc hb3
    go_wp2
    go_ret2
    exact ⟨HB3.out, .inl ⟨HN.out, _, rfl, HC.out⟩⟩
end
end Go.Proofs.YtkfimdpcadbcpaaGreatDoor
