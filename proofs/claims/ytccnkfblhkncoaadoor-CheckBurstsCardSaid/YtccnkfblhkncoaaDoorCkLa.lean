/- The landed package check: Sum, Clone, Equal, Add (layer 15). -/
import Derived.Test.YtccnkfblhkncoaaDoorCkL
import Derived.Test.YtccnkfblhkncoaaDoorCat
import Derived.Lib.LazyBuf
namespace Go.Proofs.YtccnkfblhkncoaaDoor
open Go.RowKit Go.Extern.Stop Go.Stop Go.Extern

theorem crc_flat (n : Nat) (L : List (List Nat)) (j : Nat) (h : j < L.length) : crcO n (L.take (j + 1)).flatten = crcO (crcO n (L.take j).flatten) (L.getD j []) := by
  rw [List.take_add_one, List.getElem?_eq_getElem h, List.flatten_append, crcO_append, List.getD_eq_getElem?_getD, List.getElem?_eq_getElem h]
  simp

set_option maxRecDepth 1000000 in
set_option maxHeartbeats 4000000 in
theorem ckSum_same {w : World} (v : Value) (L : List (List Nat)) (h : MatAt byteV w v L) (ho : ∀ r ∈ L, Octets r) : Calls Tryd.prog 16 #[v] w fun e w' => e = .returned (.int .u32 ((crcSum L.flatten : Nat) : Int)) ∧ w' = w := by
  have hlen := h.len
  obtain ⟨a, cap, rfl, hcap, hcm, hcell⟩ := h.opens
  have HC := Lib.hid hcell
  have HO : Hid (∀ j, j < L.length → Octets (L.getD j [])) := Lib.hid fun j hj => ho _ (by
    rw [List.getD_eq_getElem?_getD, List.getElem?_eq_getElem hj]; exact List.getElem_mem hj)
  have HR0 : Hid (crcO 4294967295 (L.take 0).flatten = 4294967295) := Lib.hid rfl
  have HLT : Hid (∀ j, crcO 4294967295 (L.take j).flatten < 4294967296) := Lib.hid fun j => crcO_lt _ _ (by decide)
  have HST : Hid (∀ j, j < L.length → crcO 4294967295 (L.take (j + 1)).flatten = crcO (crcO 4294967295 (L.take j).flatten) (L.getD j [])) := Lib.hid (crc_flat 4294967295 L)
  have HEND : Hid (crcSum L.flatten = 4294967295 - crcO 4294967295 (L.take L.length).flatten) := Lib.hid (by rw [List.take_length]; rfl)
  clear h ho hcell
  go_enter Tryd.func16, Tryd.ntmps16
  go_wp2_with fail
  go_loopw [3, 10] (fun n i wr => ∃ j : Nat, j ≤ L.length ∧ i = .int .i64 (j : Int) ∧ n = .int .u32 ((crcO 4294967295 (L.take j).flatten : Nat) : Int) ∧ wr = w) (fun _ i _ => L.length - (intOf i).toNat)
  case atStart => exact ⟨0, by omega, rfl, by rw [HR0.out]; rfl, rfl⟩
  case round =>
    obtain ⟨j, hj, rfl, rfl, rfl⟩ := hrel
    by_cases hlt : j < L.length
    · have d1 : decide ((j : Int) < (L.length : Int)) = true := decide_eq_true (by omega)
      obtain ⟨b, off, rfl, hcc⟩ := HC.out (by omega)
      obtain ⟨x, hx, hl1⟩ := hcc j hlt
      have ho1 := HO.out j hlt
      have hn0 := HLT.out j
      have HS1 := Lib.hid (HST.out j hlt)
      have hrl := hl1.len
      obtain ⟨a1, c1, rfl, -, -, hcell1⟩ := hl1
      have HC1 := Lib.hid hcell1
      have HO1 := Lib.hid ho1
      clear hcc hcell1 ho1
      generalize crcO 4294967295 (L.take j).flatten = n0 at *
      generalize L.getD j [] = r at *
      have HT0 : Hid (crcO n0 (r.take 0) = n0) := Lib.hid rfl
      have HTL : Hid (∀ t, crcO n0 (r.take t) < 4294967296) := Lib.hid fun t => crcO_lt _ _ hn0
      have HTS : Hid (∀ t, t < r.length → crcO n0 (r.take (t + 1)) = crcR (crcO n0 (r.take t)) (octBits (r.getD t 0))) := Lib.hid fun t ht => crc_take r n0 t ht
      have HTE : Hid (crcO n0 (r.take r.length) = crcO n0 r) := Lib.hid (by rw [List.take_length])
      go_wp2_with fail
      go_loopw [3, 16] (fun n i wr' => ∃ t : Nat, t ≤ r.length ∧ i = .int .i64 (t : Int) ∧ n = .int .u32 ((crcO n0 (r.take t) : Nat) : Int) ∧ wr' = wr) (fun _ i _ => r.length - (intOf i).toNat)
      case atStart => exact ⟨0, by omega, rfl, by rw [HT0.out], rfl⟩
      case round =>
        obtain ⟨t, ht, rfl, rfl, rfl⟩ := hrel
        by_cases htl : t < r.length
        · have d2 : decide ((t : Int) < (r.length : Int)) = true := decide_eq_true (by omega)
          obtain ⟨b1, off1, rfl, hcc1⟩ := HC1.out (by omega)
          have hx1 := hcc1 t htl
          have hy : r.getD t 0 < 256 := HO1.out.getD t
          have hcell : wr.cell? ⟨b1, off1 + t, none⟩ = some (.int .u8 ((r.getD t 0 : Nat) : Int)) := by
            rw [hx1]; simp [List.getD_eq_getElem?_getD, htl, byteV]
          have hm := HTL.out t
          have HSS := Lib.hid (HTS.out t htl)
          clear hcc1 hx1
          generalize r.getD t 0 = y at *
          generalize crcO n0 (r.take t) = m at *
          have hxr := ck_xor_u32 m y hm (by omega)
          have HMV := Lib.hid (ckMoved_any (w := wr) (m ^^^ y) (Nat.xor_lt_two_pow (n := 32) (by omega) (by omega)))
          rw [← crc_byte m y hy] at HMV
          generalize m ^^^ y = z at *
          go_wp2_with fail
          refine HMV.out.mono ?_
          rintro e w1 ⟨rfl, rfl⟩
          rw [← HSS.out]
          go_wp2_with fail
          go_roundw
          case rel => exact ⟨t + 1, htl, by go_num, rfl, trivial⟩
          case measure => simp [intOf]; omega
        · obtain rfl : t = r.length := by omega
          have d2 : decide ((r.length : Int) < (r.length : Int)) = false := decide_eq_false (by omega)
          rw [HTE.out, ← HS1.out]
          go_wp2
          go_roundw
          case rel => exact ⟨j + 1, hlt, by go_num, rfl, trivial⟩
          case measure => simp [intOf]; omega
    · obtain rfl : j = L.length := by omega
      have d1 : decide ((L.length : Int) < (L.length : Int)) = false := decide_eq_false (by omega)
      have hn0 := HLT.out L.length
      generalize crcO 4294967295 (L.take L.length).flatten = n at *
      have hnt := ck_not n hn0
      go_wp2
      go_ret
      exact ⟨by rw [HEND.out]; rfl, rfl⟩

theorem ckSumC : CkSumC := fun w v L h ho => (ckSum_same v L h ho).mono (by
  rintro e w' ⟨rfl, rfl⟩
  exact ⟨rfl, Below.refl _ _⟩)

set_option maxRecDepth 1000000 in
set_option maxHeartbeats 4000000 in
theorem ckClone_any {w : World} (v : Value) (l : List Nat) (h : ListAt byteV w v l) (hR : l.length ≤ 140737488351248) : Calls Tryd.prog 17 #[v] w fun e w' => ∃ v', e = .returned v' ∧ w'.ownsRow w.heap.size 5 1 v' l.length (l.map byteV) ∧ Below w.heap.size w w' := by
  obtain ⟨j0, hj0, jz0, jz1, jz2⟩ := info_parts info_u8
  have HL := Lib.hid h
  have q22 : ∀ (w : World) (a : Option Addr) (n c : Nat), (binOp .eql 22 (.slice a n c) (.slice none 0 0)).run Tryd.prog w = .ok (.bool a.isNone) w := fun w a n c => Go.run_eql_slice_nil w _ _ a n c Tryd.underlying22
  obtain ⟨a, cap, rfl, -, -, hc⟩ := h
  cases a with
  | none =>
    have h0 : l = [] := by
      rcases Nat.eq_zero_or_pos l.length with h | h
      · exact List.eq_nil_of_length_eq_zero h
      · obtain ⟨b, off, h1, -⟩ := hc h
        exact absurd h1 (by simp)
    subst h0
    go_enter Tryd.func17, Tryd.ntmps17
    go_wp2
    go_ret
    exact ⟨_, rfl, World.ownsRow_nil _ _ _ _, Below.refl _ _⟩
  | some a =>
    have HOS := Lib.hid (World.ownsRow_made (base := w.heap.size) (e := 5) (size := 1) w #[] 0 (Nat.le_refl _) (by decide) rfl)
    have HB2 := Lib.hid ((Below.refl w.heap.size w).alloc (Nat.le_refl _) (.cells #[] 5))
    have HL2 := Lib.hid (HL.out.mono HB2.out)
    clear hc
    go_enter Tryd.func17, Tryd.ntmps17
    go_wp2_with (at_builtin; refine wpList_append_of _ rfl (.tmp 5) (.tmp 6) 22 rfl w.heap.size 5 j0 (.int .u8 0) 1 Tryd.underlying22 hj0 jz0 jz1 jz2 rfl (.slice (some ⟨w.heap.size, 0, none⟩) 0 0) 0 [] rfl HOS.out (.slice (some a) l.length cap) l rfl HL2.out (fun y _ => rfl) (by unfold maxLen; omega) (by omega) (by simp) ?_; intro v3 w3 ho3 hg3; have HO3 := Lib.hid (show w3.ownsRow w.heap.size 5 1 v3 l.length (l.map byteV) by simpa using ho3); have HB3 := Lib.hid (HB2.out.grown hg3 (by simp) (fun k hk => (HOS.out.lt k hk).1)); clear ho3 hg3)
    go_ret
    exact ⟨_, rfl, HO3.out, HB3.out⟩

set_option maxRecDepth 1000000 in
set_option maxHeartbeats 4000000 in
theorem ckEqual_any {w : World} (x y : Value) (a b : List Nat) (hx : ListAt byteV w x a) (hy : ListAt byteV w y b) (ha : Octets a) (hb : Octets b) : Calls Tryd.prog 14 #[x, y] w fun e w' => e = .returned (.bool (decide (a = b))) ∧ w' = w := by
  have h1 := hx.str
  have h2 := hy.str
  have h3 := strN_same ha hb
  obtain ⟨p1, c1, rfl, -, -, -⟩ := hx
  obtain ⟨p2, c2, rfl, -, -, -⟩ := hy
  generalize decide (a = b) = q at *
  go_enter Tryd.func14, Tryd.ntmps14
  go_wp2_with fail
  go_ret
  exact ⟨by first | rw [h3] | rfl, rfl⟩

theorem mat_one {w : World} {x : Value} {a : List Nat} (hx : ListAt byteV w x a) : MatAt byteV (w.alloc (.cells #[x] 22)) (.slice (some ⟨w.heap.size, 0, none⟩) 1 1) [a] := by
  have hb : Below w.heap.size w (w.alloc (.cells #[x] 22)) := (Below.refl _ _).alloc (Nat.le_refl _) _
  refine ⟨[x], ListAt.of_owns (f := id) (l := [x]) (own_of_heap (base := 0) (n := 1) (g := w.heap.size) (e := 22) (xs := [x].map id) (Nat.zero_le _) rfl (by decide) (heap_alloc_new w _)), rfl, fun i => ?_⟩
  match i with
  | 0 => exact hx.mono hb
  | i + 1 => exact ListAt.nil _ _
theorem ListAt.vals1 {w : World} {v : Value} {l : List Nat} (h : ListAt byteV w v l) : ListAt id w v (l.map byteV) := by
  obtain ⟨a, cap, rfl, h1, h2, h3⟩ := h
  refine ⟨a, cap, by simp, by simpa using h1, h2, fun hp => ?_⟩
  obtain ⟨b, off, rfl, hc⟩ := h3 (by simpa using hp)
  refine ⟨b, off, rfl, fun j hj => ?_⟩
  rw [hc j (by simpa using hj)]
  simp
theorem mat_two {w : World} {x y : Value} {a b : List Value} (hx : ListAt id w x a) (hy : ListAt id w y b) : MatAt id (w.alloc (.cells #[x, y] 22)) (.slice (some ⟨w.heap.size, 0, none⟩) 2 2) [a, b] := by
  have hb : Below w.heap.size w (w.alloc (.cells #[x, y] 22)) := (Below.refl _ _).alloc (Nat.le_refl _) _
  refine ⟨[x, y], ListAt.of_owns (f := id) (l := [x, y]) (own_of_heap (base := 0) (n := 2) (g := w.heap.size) (e := 22) (xs := [x, y].map id) (Nat.zero_le _) rfl (by decide) (heap_alloc_new w _)), rfl, fun i => ?_⟩
  match i with
  | 0 => exact hx.mono hb
  | 1 => exact hy.mono hb
  | i + 2 => exact ListAt.nil _ _

set_option maxRecDepth 1000000 in
set_option maxHeartbeats 4000000 in
theorem ckAddC : CkAddC := fun w v l h ho hR => by
  have hlen := h.len
  have HL := Lib.hid h
  obtain ⟨a, cap, rfl, -, -, -⟩ := h
  have HB1 := Lib.hid ((Below.refl w.heap.size w).alloc (Nat.le_refl _) (.cells #[.slice a l.length cap] 22))
  have HS := Lib.hid (ckSum_same _ [l] (mat_one HL.out) (by intro r hr; simp at hr; rw [hr]; exact ho))
  have hfl : [l].flatten = l := by simp
  rw [hfl] at HS
  have hn := crcSum_lt l
  have HLD : Hid (∀ V : World, Calls Tryd.prog 15 #[.int .u32 ((crcSum l : Nat) : Int)] V fun e w' => ∃ v', e = .returned v' ∧ w'.ownsRow V.heap.size 5 1 v' 4 ((le4 (crcSum l)).map byteV) ∧ Below V.heap.size V w') := Lib.hid fun V => ckLaid_any _ hn
  have HE : Hid (∀ X Y : List Value, [X, Y].flatten = X ++ Y) := Lib.hid fun X Y => by simp
  have HMM : Hid ((l ++ le4 (crcSum l)).map byteV = l.map byteV ++ (le4 (crcSum l)).map byteV) := Lib.hid (List.map_append ..)
  have h4l : ((le4 (crcSum l)).map byteV).length = 4 := by rw [List.length_map]; rfl
  generalize crcSum l = n at *
  clear hfl ho
  go_enter Tryd.func12, Tryd.ntmps12
  go_wp2_with fail
  refine HS.out.mono ?_
  rintro e w1 ⟨rfl, rfl⟩
  go_wp2_with fail
  refine (HLD.out _).mono ?_
  rintro e w2 ⟨v2, rfl, ho2, hb2⟩
  have HB2 := Lib.hid (HB1.out.trans (hb2.mono HB1.out.size))
  have HL2 := Lib.hid (ListAt.of_owns (f := byteV) (l := le4 n) ho2)
  have HP2 := Lib.hid (HL.out.mono HB2.out)
  obtain ⟨a2, c2, rfl, -, -⟩ := own_open ho2
  clear ho2 hb2
  have hm2 := mat_two HP2.out.vals1 HL2.out.vals1
  have HB3 := Lib.hid (HB2.out.alloc HB2.out.size (.cells #[(.slice a l.length cap), (.slice a2 4 c2)] 22))
  have HCC := Lib.hid (ConcatB_any _ _ hm2 (by
    intro r hr y hy
    simp at hr
    rcases hr with rfl | rfl <;> · obtain ⟨z, -, rfl⟩ := List.mem_map.1 hy; rfl) (by simp) (by rw [HE.out, List.length_append, h4l, List.length_map]; omega))
  rw [HE.out, ← HMM.out, List.length_map, List.length_append, show (le4 n).length = 4 from rfl] at HCC
  clear hm2
  go_wp2_with fail
  refine HCC.out.mono ?_
  rintro e w4 ⟨v4, rfl, ho4, hb4⟩
  have HO4 := Lib.hid (ownsRow_base ho4 HB3.out.size)
  have HB4 := Lib.hid (HB3.out.trans (hb4.mono HB3.out.size))
  clear ho4 hb4
  go_wp2_with fail
  go_ret
  exact ⟨_, rfl, HO4.out, HB4.out⟩
end Go.Proofs.YtccnkfblhkncoaaDoor
