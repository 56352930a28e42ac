import Derived.Test.YtnkkaggepokjeaaDoorElRefC
import Derived.Deep.AppendLies
import Derived.Deep.RegionLaw

section
/- Package geyserref05: byteOf, bytes, Check. -/
namespace Go.Proofs.YtnkkaggepokjeaaDoor
open Go.RowKit Go.Extern.Stop Go.Stop Go.Extern

/-- Eight truths from the highest one down. -/
def hiTo (g : Nat → Bool) : Nat → Nat
  | 0 => 0
  | k + 1 => 2 * hiTo g k + (if g (7 - k) then 1 else 0)
theorem hiTo_lt (g : Nat → Bool) : ∀ k, hiTo g k < 2 ^ k
  | 0 => by simp [hiTo]
  | k + 1 => by
    have := hiTo_lt g k
    rw [Nat.pow_succ]
    unfold hiTo
    split <;> omega
theorem hiTo_small (g : Nat → Bool) (k : Nat) (h : k ≤ 8) : hiTo g k < 256 := Nat.lt_of_lt_of_le (hiTo_lt g k) (Nat.pow_le_pow_right (by decide) h)
theorem hiTo_byte (v : Nat → Bool) (q : Nat) : hiTo (fun b => v (q + b)) 8 = byteAt v q := by
  unfold byteAt
  simp only [List.range_succ, List.range_zero, List.nil_append, List.foldl_append, List.foldl_cons, List.foldl_nil, hiTo, Nat.sub_zero]
  simp only [show 7 - 7 = 0 by rfl, show 7 - 6 = 1 by rfl, show 7 - 5 = 2 by rfl, show 7 - 4 = 3 by rfl, show 7 - 3 = 4 by rfl, show 7 - 2 = 5 by rfl, show 7 - 1 = 6 by rfl]
  have hs : ∀ (p : Prop) [Decidable p] (n : Nat), (if p then n else 0) = n * (if p then 1 else 0) := fun p _ n => by split <;> simp
  rw [hs _ (2 ^ 1), hs _ (2 ^ 2), hs _ (2 ^ 3), hs _ (2 ^ 4), hs _ (2 ^ 5), hs _ (2 ^ 6), hs _ (2 ^ 7), hs _ (2 ^ 0)]
  omega

set_option maxRecDepth 1000000 in
set_option maxHeartbeats 1000000 in
theorem byteOf_any {w : World} (b off cap : Nat) (g : Nat → Bool) (hc : ∀ j, j < 8 → w.cell? ⟨b, off + j, none⟩ = some (.bool (g j))) :
    Calls Tryd.prog 84 #[.slice (some ⟨b, off, none⟩) 8 cap] w fun e w' => e = .returned (.int .u8 ((hiTo g 8 : Nat) : Int)) ∧ w = w' := by
  have HC := Lib.hid hc
  clear hc
  go_enter Tryd.func84, Tryd.ntmps84
  go_wp2
  go_loopw [3, 4] (fun s bt wr => ∃ k : Nat, k ≤ 8 ∧ bt = .int .i64 (7 - (k : Int)) ∧ s = .int .i64 ((hiTo g k : Nat) : Int) ∧ w = wr) (fun _ bt _ => ((intOf bt) + 1).toNat)
  case atStart => exact ⟨0, by decide, rfl, rfl, rfl⟩
  case round =>
    obtain ⟨k, hk, rfl, rfl, rfl⟩ := hrel
    by_cases hlt : k < 8
    · have hx := HC.out (7 - k) (by omega)
      have hS : hiTo g (k + 1) = 2 * hiTo g k + (if g (7 - k) then 1 else 0) := rfl
      have HS := Lib.hid hS
      have hsm := hiTo_small g k hk
      clear hS
      generalize hiTo g k = s at *
      have hge : (0 : Int) ≤ 7 - (k : Int) := by omega
      have hd : (7 : Int) - (k : Int) = ((7 - k : Nat) : Int) := by omega
      obtain ⟨d, hdd⟩ : ∃ d, d = 7 - k := ⟨_, rfl⟩
      rw [← hdd] at hd hx HS
      rw [hd] at hge ⊢
      have HDD := Lib.hid hdd
      have hd8 : d < 8 := by omega
      clear hd hdd
      cases hg : g d with
      | true =>
        rw [hg] at hx HS
        go_wp2
        go_roundw
        case rel => exact ⟨k + 1, by omega, by have := HDD.out; go_num, by rw [HS.out]; go_num, trivial⟩
        case measure => simp [intOf]
      | false =>
        rw [hg] at hx HS
        go_wp2
        go_roundw
        case rel => exact ⟨k + 1, by omega, by have := HDD.out; go_num, by rw [HS.out]; go_num, trivial⟩
        case measure => simp [intOf]
    · have hk' : k = 8 := by omega
      subst hk'
      have hsm := hiTo_small g 8 (by decide)
      obtain ⟨s, hs⟩ : ∃ s, s = hiTo g 8 := ⟨_, rfl⟩
      rw [← hs] at hsm ⊢
      have HSE := Lib.hid hs
      clear hs
      have hw : IntKind.u8.wrap (s : Int) = (s : Int) := by rw [IntKind.wrap_u8]; omega
      go_wp2
      go_ret
      exact ⟨by rw [← HSE.out]; rfl, rfl⟩

/-- The bytes of truths, eight a byte. -/
def bytesTo (l : List Bool) (k : Nat) : List Nat := (List.range k).map fun i => byteAt (bitB l) (8 * i)
theorem bytesTo_succ (l : List Bool) (k : Nat) : bytesTo l (k + 1) = bytesTo l k ++ [byteAt (bitB l) (8 * k)] := by simp [bytesTo, List.range_succ]
theorem bytesTo_length (l : List Bool) (k : Nat) : (bytesTo l k).length = k := by simp [bytesTo]

set_option maxRecDepth 1000000 in
set_option maxHeartbeats 1000000 in
theorem bytes_any {w : World} (v : Value) (l : List Bool) (m : Nat) (h : ListAt boolV w v l) (hl : l.length = 8 * m) (hm : m ≤ 64) :
    Calls Tryd.prog 67 #[v] w fun e w' => ∃ v', e = .returned v' ∧ w'.ownsRow w.heap.size 5 1 v' m ((bytesTo l m).map byteV) ∧ Below w.heap.size w w' := by
  obtain ⟨i0, hi0, hz0, hz1, hz2⟩ := info_parts info_u8
  obtain ⟨ad, cap, rfl, hcap, hcm, hcell⟩ := h
  have HC : Hid (0 < l.length → ∃ b off, ad = some ⟨b, off, none⟩ ∧ ∀ j, j < l.length → w.cell? ⟨b, off + j, none⟩ = some (.bool (bitB l j))) := Lib.hid fun hp => by
    obtain ⟨b, off, e, hc⟩ := hcell hp
    refine ⟨b, off, e, fun j hj => ?_⟩
    rw [hc j hj]
    exact congrArg some (boolV_get _ _ _)
  clear hcell
  generalize l.length = N at *
  have HLN := Lib.hid hl
  clear hl
  go_enter Tryd.func67, Tryd.ntmps67
  go_wp2
  go_loopw [3, 4] (fun o i wr => ∃ k : Nat, k ≤ m ∧ i = .int .i64 ((8 * k : Nat) : Int) ∧ wr.ownsRow w.heap.size 5 1 o k ((bytesTo l k).map byteV) ∧ Below w.heap.size w wr) (fun _ i _ => N + 8 - (intOf i).toNat)
  case atStart => exact ⟨0, Nat.zero_le _, rfl, World.ownsRow_made (base := w.heap.size) (e := 5) (size := 1) w #[] 0 (Nat.le_refl _) (by decide) rfl, (Below.refl _ _).alloc (Nat.le_refl _) _⟩
  case round =>
    obtain ⟨k, hk, rfl, hown, hbel⟩ := hrel
    have hsz := hbel.size
    have HO := Lib.hid hown
    have HB := Lib.hid hbel
    by_cases hlt : k < m
    · obtain ⟨b, off, rfl, hcc⟩ := HC.out (by have := HLN.out; omega)
      have HCC : Hid (∀ j, j < 8 → wr.cell? ⟨b, off + 8 * k + j, none⟩ = some (.bool ((fun t => bitB l (8 * k + t)) j))) := Lib.hid fun j hj => by
        have hx := hcc (8 * k + j) (by have := HLN.out; omega)
        rw [Nat.add_assoc]
        exact (hbel.cell (p := ⟨b, off + (8 * k + j), none⟩) (World.block_lt_of_cell? w _ hx)).trans hx
      have HBY := Lib.hid (hiTo_byte (bitB l) (8 * k))
      have hsm := hiTo_small (fun t => bitB l (8 * k + t)) 8 (by decide)
      have HSM := Lib.hid hsm
      have HS := Lib.hid (bytesTo_succ l k)
      have HQ := Lib.hid (bytesTo_length l k)
      have h8 : 8 * (k + 1) = 8 * k + 8 := by omega
      have H8 := Lib.hid h8
      have hqb : 8 * k + 8 ≤ N := by have := HLN.out; omega
      have hqs : 8 * k + 8 ≤ 512 := by omega
      clear hcc hown hbel hsm h8
      generalize hqq : 8 * k = q at *
      have HQQ := Lib.hid hqq
      clear hqq
      have hq1 : (q : Int) + 8 ≤ (N : Int) := by omega
      have hq2 : (q : Int) ≤ (q : Int) + 8 := by omega
      have hq3 : (q : Int) + 8 ≤ (cap : Int) := by omega
      go_wp2_with fail
      go_loud (refine (byteOf_any b (off + q) (cap - q) (fun t => bitB l (q + t)) HCC.out).mono ?_)
      rintro e w1 ⟨rfl, rfl⟩
      generalize hiTo (fun t => bitB l (q + t)) 8 = y at *
      go_wp2_with (at_builtin; go_loud (refine wpList_append_own _ rfl _ _ 39 rfl w.heap.size 5 i0 (.int .u8 0) 1 1 Tryd.underlying39 hi0 hz0 hz1 hz2 rfl (by decide) u3 k ((bytesTo l k).map byteV) rfl (HO.out.alloc _) ⟨wr.heap.size, 0, none⟩ 1 1 [.int .u8 (y : Int)] rfl rfl (cell_one_new _ _ _) (fun x hx => by simp at hx; subst hx; rfl) (by unfold maxLen; omega) (by omega) (by simp; omega) ?_; intro v2 w2 hown1 hgrow1 _; have hb2 := Lib.hid ((HB.out.alloc hsz _).grown hgrow1 (by simp; omega) (fun k hk => (HO.out.lt k hk).1)); have ho2 := Lib.hid hown1; clear hown1 hgrow1))
      go_roundw
      case rel => exact ⟨k + 1, by omega, by rw [H8.out]; go_num, by rw [HS.out, ← HBY.out]; have h := own_snoc (f := byteV) HQ.out ho2.out; rw [List.length_append, HQ.out] at h; exact h, hb2.out⟩
      case measure => simp [intOf]; omega
    · have hk' : k = m := by omega
      subst hk'
      have hqI : (N : Int) < ((8 * k : Nat) : Int) + 8 := by have := HLN.out; omega
      clear hown hbel
      go_wp2
      go_ret
      exact ⟨_, rfl, HO.out, HB.out⟩
end Go.Proofs.YtnkkaggepokjeaaDoor
end

section
/- Package geyserref05: Kind. -/
namespace Go.Proofs.YtnkkaggepokjeaaDoor
open Go.RowKit Go.Extern.Stop Go.Stop Go.Extern

def vecsE (L : List Eqn) (n : Nat) : List Vec := L.map fun q => longV q.1 q.2 n
theorem vecsB_longs (L : List Eqn) (n : Nat) : vecsB (longsE L n) = vecsE L n := by simp [vecsB, longsE, vecsE, longV]
theorem vecsE_snoc (L : List Eqn) (n : Nat) (q : Eqn) : vecsE (L ++ [q]) n = vecsE L n ++ [longV q.1 q.2 n] := by simp [vecsE]
theorem vecsE_proj {L : List Eqn} {n size : Nat} (h : ∀ p ∈ L, EqOk n size p) : (vecsE L n).map (proj n) = vecs (rowsE L) := by
  unfold vecsE vecs rowsE
  rw [List.map_map, List.map_map]
  exact List.map_congr_left fun p hp => longV_proj (h p hp).2.2.1
theorem rowsE_ok {L : List Eqn} {n size : Nat} (h : ∀ p ∈ L, EqOk n size p) (hn : n ≤ 4096) (hl : L.length ≤ 4096) : MatOk (rowsE L) n :=
  ⟨hn, by simp [rowsE]; exact hl, fun r hr => by obtain ⟨p, hp, rfl⟩ := List.mem_map.1 hr; exact (h p hp).2.1, fun r hr => by obtain ⟨p, hp, rfl⟩ := List.mem_map.1 hr; exact ⟨(h p hp).1, (h p hp).2.2.1⟩⟩
theorem longsE_rows {L : List Eqn} {n size : Nat} (h : ∀ p ∈ L, EqOk n size p) : RowsLen (longsE L n) (n + 8 * size) := fun k hk => by
  rw [longsE_length] at hk
  have e : (longsE L n).getD k [] = longB (L.getD k noEq).1 (L.getD k noEq).2 n := by simp [longsE, List.getD_eq_getElem?_getD, hk]
  rw [e, longB_length, (h _ (getD_mem_eq hk)).2.2.2.1]

noncomputable def kindQ (L : List Eqn) (n : Nat) (q : Eqn) : Nat := kindV n (vecsE L n) (longV q.1 q.2 n)

set_option maxRecDepth 1000000 in
set_option maxHeartbeats 1000000 in
theorem Kind_any {w : World} (n size : Nat) (v vr vs0 : Value) (c : Bool) (L : List Eqn) (q : Eqn) (h : EqsAt w v L) (hr : ListAt wordV w vr q.1) (hs : ListAt byteV w vs0 q.2) (hok : ∀ p ∈ L, EqOk n size p) (hq : EqOk n size q)
    (hn : n + 8 * size ≤ 4096) (hsz64 : size ≤ 64) (hl : L.length ≤ 4095) :
    Calls Tryd.prog 32 #[sysV n size v c, vr, vs0] w fun e w' => e = .returned (.int .i64 ((kindQ L n q : Nat) : Int)) ∧ Below w.heap.size w w' := by
  have hok2 : ∀ p ∈ L ++ [q], EqOk n size p := fun p hp => by rcases List.mem_append.1 hp with h | h; exact hok p h; rw [List.mem_singleton.1 h]; exact hq
  have HOKM := Lib.hid (rowsE_ok hok (show n ≤ 4096 by omega) (show L.length ≤ 4096 by omega))
  have HOKM2 : Hid (MatOk (rowsE L ++ [q.1]) n) := Lib.hid (by have := rowsE_ok hok2 (show n ≤ 4096 by omega) (by simp; omega); simpa [rowsE] using this)
  have HRL := Lib.hid (longsE_rows hok2)
  have HP := Lib.hid (vecsE_proj hok)
  have HPQ : Hid (proj n (longV q.1 q.2 n) = bitW q.1) := Lib.hid (longV_proj hq.2.2.1)
  have HE0 := Lib.hid h
  have HEL := h
  obtain ⟨ad, cap, rfl, hcap, hcm, -⟩ := HEL
  obtain ⟨w0, hw0, hb0, hs0, hsc⟩ := sys_laid w n size (.slice ad L.length cap) c
  have HB0 := Lib.hid hb0
  have HSC := Lib.hid hsc
  have HW0 := Lib.hid hw0
  have HR := Lib.hid hr
  have HSY := Lib.hid hs
  have HOK := Lib.hid hok
  have HQK := Lib.hid hq
  obtain ⟨qr, qs⟩ := q
  obtain ⟨ar, cr, rfl, -, -, -⟩ := hr
  obtain ⟨asy, csy, rfl, -, -, -⟩ := hs
  clear hsc hb0 hw0 hok hq h hok2
  unfold sysV
  go_enter Tryd.func32, Tryd.ntmps32
  have hs0' := HSC.out.1
  have hs1' := HSC.out.2.1
  have hs2' := HSC.out.2.2.1
  have hs3' := HSC.out.2.2.2
  have HBD : Hid (Below w.heap.size w w0.drew) := Lib.hid HB0.out.drew
  have HROWS : Hid (∀ w', Below w.heap.size w w' → Calls Tryd.prog 58 #[sysV n size (.slice ad L.length cap) c] w' fun e w'' => ∃ v', e = .returned v' ∧ MatAt wordV w'' v' (rowsE L) ∧ Below w'.heap.size w' w'') := Lib.hid fun w' hb => Rows_any n size _ c L (HE0.out.mono hb) (by omega)
  unfold sysV at HROWS
  have HSCD : Hid (SysCells w.heap.size w0.drew n size (.slice ad L.length cap) c) := Lib.hid (HSC.out.mono (Below.refl _ _).drew)
  go_wp2_with fail
  rw [← HW0.out]
  go_region_law (go_loud (first
    | (go_simp; go_at_call 58; refine (HROWS.out _ HBD.out).mono ?_; rintro e wA ⟨va, rfl, hva, hbA⟩; have HMA := Lib.hid hva; have HSA := Lib.hid (HSCD.out.mono hbA); have hsA := HSA.out.1; have HBA := Lib.hid (HBD.out.trans (hbA.mono HBD.out.size)); clear hva hbA)
    | (go_simp; go_at_call 57; refine (refSpans_any va _ (rowsE L) qr n HMA.out (HR.out.mono HBA.out) HOKM.out HOKM2.out).mono ?_; rintro e wB ⟨bt, rfl, hbt, hbB⟩; have HBT := Lib.hid hbt; have HSB := Lib.hid (HSA.out.mono hbB); have HBB := Lib.hid (HBA.out.trans (hbB.mono HBA.out.size)); clear hbt hbB)))
  all_goals
    have hsB1 := HSB.out.1
    have hsB2 := HSB.out.2.1
    have hsB3 := HSB.out.2.2.1
    have hsB4 := HSB.out.2.2.2
    have hszB := HBB.out.size
    cases bt with
    | false =>
      have HK : Hid (kindQ L n (qr, qs) = 1) := Lib.hid (by
        unfold kindQ kindV
        rw [if_neg]
        intro h
        rw [HP.out, HPQ.out] at h
        exact Bool.noConfusion (HBT.out.2 h))
      go_wp2
      go_ret
      exact ⟨by rw [HK.out]; rfl, HBB.out⟩
    | true =>
      have HK : Hid (kindQ L n (qr, qs) = if rk (vecsE (L ++ [(qr, qs)]) n) = rk (vecsE L n) then 2 else 3) := Lib.hid (by
        unfold kindQ kindV
        rw [if_pos (by rw [HP.out, HPQ.out]; exact HBT.out.1 rfl), vecsE_snoc]
        by_cases hk : Sp (vecsE L n) (longV qr qs n)
        · rw [if_pos hk, if_pos (rk_known.2 hk)]
        · rw [if_neg hk, if_neg (fun h => hk (rk_known.1 h))])
      have HLS := Lib.hid (longs_any n size (.slice ad L.length cap) (.slice ar qr.length cr) (.slice asy qs.length csy) c L (qr, qs) (HE0.out.mono HBB.out) (HR.out.mono HBB.out) (HSY.out.mono HBB.out) HOK.out HQK.out (by omega) hsz64 (by omega))
      unfold sysV at HLS
      go_wp2_with fail
      refine HLS.out.mono ?_
      rintro e w3 ⟨v3, rfl, hv3, hb3⟩
      have hsc3 := HSB.out.mono hb3
      have hsC1 := hsc3.1
      have hsC2 := hsc3.2.1
      have HB3 := Lib.hid (HBB.out.trans (hb3.mono hszB))
      have hlen3 : (longsE (L ++ [(qr, qs)]) n).length = L.length + 1 := by rw [longsE_length]; simp
      have htk3 : (longsE (L ++ [(qr, qs)]) n).take L.length = longsE L n := by rw [longsE_snoc, List.take_append_of_le_length (by rw [longsE_length]; exact Nat.le_refl _), ← longsE_length L n, List.take_length]
      obtain ⟨a3, c3, rfl, hc3, -, hopen⟩ := hv3.opens
      rw [hlen3] at hc3 hopen
      obtain ⟨b3, o3, rfl, -⟩ := hopen (by omega)
      have HMT : Hid (MatAt boolV w3 (.slice (some ⟨b3, o3, none⟩) L.length c3) (longsE L n)) := Lib.hid (by have := hv3.take L.length (by rw [hlen3]; omega); rwa [htk3] at this)
      have HM3 := Lib.hid hv3
      rw [hlen3] at HM3 ⊢
      have HLEN3 := Lib.hid hlen3
      have HRT : Hid (RowsLen (longsE L n) (n + 8 * size)) := Lib.hid (longsE_rows HOK.out)
      have hsz3 := HB3.out.size
      have HBD3 : Hid (Below w3.heap.size w3 w3.drew) := Lib.hid (Below.refl _ _).drew
      clear hv3 hb3 hsc3 hlen3 htk3 HLS hsB1 hsB2 hsB3 hsB4
      obtain ⟨m, hm⟩ : ∃ m, m = n + 8 * size := ⟨_, rfl⟩
      have HGA : Hid (∀ w', Below w3.heap.size w3 w' → Calls Tryd.prog 48 #[.slice (some ⟨b3, o3, none⟩) (L.length + 1) c3, .int .i64 (m : Int)] w' fun e w'' => ∃ v' k, e = .returned v' ∧ (∃ a1 c1, v' = .slice a1 k c1) ∧ k = rk (vecsE (L ++ [(qr, qs)]) n) ∧ k ≤ 100000 ∧ Below w'.heap.size w' w'') := Lib.hid fun w' hb => by
        refine (Gauss_any _ _ m (HM3.out.mono hb) (by rw [hm]; exact HRL.out) (by omega) (by rw [HLEN3.out]; omega)).mono ?_
        rintro e w'' ⟨v', R, rfl, h1, -, h3, h4, h5, h6⟩
        obtain ⟨a1, c1, rfl, -, -, -⟩ := h1.opens
        refine ⟨_, R.length, rfl, ⟨a1, c1, rfl⟩, ?_, by rw [HLEN3.out] at h5; omega, h6⟩
        have := h3.rank h4
        rwa [vecsB_length, vecsB_longs] at this
      have HGB : Hid (∀ w', Below w3.heap.size w3 w' → Calls Tryd.prog 48 #[.slice (some ⟨b3, o3, none⟩) L.length c3, .int .i64 (m : Int)] w' fun e w'' => ∃ v' k, e = .returned v' ∧ (∃ a1 c1, v' = .slice a1 k c1) ∧ k = rk (vecsE L n) ∧ k ≤ 100000 ∧ Below w'.heap.size w' w'') := Lib.hid fun w' hb => by
        refine (Gauss_any _ _ m (HMT.out.mono hb) (by rw [hm]; exact HRT.out) (by omega) (by rw [longsE_length]; omega)).mono ?_
        rintro e w'' ⟨v', R, rfl, h1, -, h3, h4, h5, h6⟩
        obtain ⟨a1, c1, rfl, -, -, -⟩ := h1.opens
        refine ⟨_, R.length, rfl, ⟨a1, c1, rfl⟩, ?_, by rw [longsE_length] at h5; omega, h6⟩
        have := h3.rank h4
        rwa [vecsB_length, vecsB_longs] at this
      have hmI : (n : Int) + 8 * (size : Int) = (m : Int) := by omega
      have hm4 : m ≤ 4096 := by omega
      have hw8 : IntKind.i64.wrap (8 * (size : Int)) = 8 * (size : Int) := IntWalk.i64_in _ (by omega)
      have hwm : IntKind.i64.wrap ((n : Int) + 8 * (size : Int)) = (m : Int) := by rw [hmI]; exact IntWalk.i64_in _ (by omega)
      have hl1 : IntKind.i64.wrap (((L.length + 1 : Nat) : Int) - 1) = (L.length : Int) := by rw [show (((L.length + 1 : Nat) : Int) - 1) = (L.length : Int) by omega]; exact IntWalk.i64_in _ (by omega)
      have hl2 : IntKind.i64.wrap ((L.length : Int) + 1 - 1) = (L.length : Int) := by rw [show ((L.length : Int) + 1 - 1) = (L.length : Int) by omega]; exact IntWalk.i64_in _ (by omega)
      have hcA : (L.length : Int) ≤ (c3 : Int) := by omega
      have hcB : (0 : Int) ≤ (L.length : Int) := by omega
      have hl3 : IntKind.i64.wrap (L.length : Int) = (L.length : Int) := IntWalk.i64_in _ (by omega)
      have hl4 : ((L.length : Int) + 1 - 1) = (L.length : Int) := by omega
      clear hm hmI
      have HRKA : Hid (∀ k, k = rk (vecsE (L ++ [(qr, qs)]) n) → ∀ k', k' = rk (vecsE L n) → kindQ L n (qr, qs) = if k = k' then 2 else 3) := Lib.hid fun k e k' e' => by rw [HK.out, e, e']
      clear HK
      go_wp2_with fail
      go_region_law (first
        | (go_simp; go_at_call 48; (with_reducible refine (HGA.out _ ?_).mono ?_); (first | exact HBD3.out | assumption); rintro e wX ⟨vX, kX, rfl, ⟨aX, cX, rfl⟩, hkX, hkX1, hbX⟩; have HBX : Hid (Below w3.heap.size w3 wX) := Lib.hid (HBD3.out.trans (hbX.mono HBD3.out.size)); have HKX := Lib.hid hkX; clear hkX hbX)
        | (go_simp; go_at_call 48; (with_reducible refine (HGB.out _ ?_).mono ?_); (first | exact HBX.out | assumption); rintro e wY ⟨vY, kY, rfl, ⟨aY, cY, rfl⟩, hkY, hkY1, hbY⟩; have HBY : Hid (Below w3.heap.size w3 wY) := Lib.hid (HBX.out.trans (hbY.mono HBX.out.size)); have HKY := Lib.hid hkY; clear hkY hbY))
      all_goals
        have HKK := Lib.hid (HRKA.out kX HKX.out kY HKY.out)
        have HBF := Lib.hid (HB3.out.trans (HBY.out.mono hsz3))
        clear HKX HKY HRKA HBX HBY HGA HGB
        by_cases he : kX = kY
        · rw [if_pos he] at HKK
          have hbe : ((kX : Int) == (kY : Int)) = true := by simp [he]
          subst he
          go_wp2
          go_ret
          exact ⟨by rw [HKK.out]; rfl, HBF.out⟩
        · rw [if_neg he] at HKK
          have hbe : ((kX : Int) == (kY : Int)) = false := by simp; omega
          clear he
          go_wp2
          go_ret
          exact ⟨by rw [HKK.out]; rfl, HBF.out⟩
end Go.Proofs.YtnkkaggepokjeaaDoor
end

section
/- Package geyserref05: one, Check. -/
namespace Go.Proofs.YtnkkaggepokjeaaDoor
open Go.RowKit Go.Extern.Stop Go.Stop Go.Extern

def checkE (n size : Int) : Int := if n < 1 ∨ 4096 < n ∨ size < 1 ∨ 64 < size then 1 else 0

theorem elCheck_any {w : World} (n size : Int) :
    Calls Tryd.prog 12 #[.int .i64 n, .int .i64 size] w fun e w' => e = .returned (.int .i64 (checkE n size)) ∧ w = w' := by
  by_cases h1 : n < 1
  · have HE : Hid (checkE n size = 1) := Lib.hid (if_pos (.inl h1))
    go_enter Tryd.func12, Tryd.ntmps12
    go_wp2
    go_ret
    exact ⟨by rw [HE.out]; rfl, rfl⟩
  by_cases h2 : 4096 < n
  · have HE : Hid (checkE n size = 1) := Lib.hid (if_pos (.inr (.inl h2)))
    go_enter Tryd.func12, Tryd.ntmps12
    go_wp2
    go_ret
    exact ⟨by rw [HE.out]; rfl, rfl⟩
  by_cases h3 : size < 1
  · have HE : Hid (checkE n size = 1) := Lib.hid (if_pos (.inr (.inr (.inl h3))))
    go_enter Tryd.func12, Tryd.ntmps12
    go_wp2
    go_ret
    exact ⟨by rw [HE.out]; rfl, rfl⟩
  by_cases h4 : 64 < size
  · have HE : Hid (checkE n size = 1) := Lib.hid (if_pos (.inr (.inr (.inr h4))))
    go_enter Tryd.func12, Tryd.ntmps12
    go_wp2
    go_ret
    exact ⟨by rw [HE.out]; rfl, rfl⟩
  · have HE : Hid (checkE n size = 0) := Lib.hid (if_neg (by omega))
    go_enter Tryd.func12, Tryd.ntmps12
    go_wp2
    go_ret
    exact ⟨by rw [HE.out]; rfl, rfl⟩

set_option maxRecDepth 1000000 in
theorem one_any {w : World} (c n : Nat) (hn : n ≤ 4096) :
    Calls Tryd.prog 65 #[.int .i64 (c : Int), .int .i64 (n : Int)] w fun e w' => ∃ v', e = .returned v' ∧ ListAt wordV w' v' (packW [(c : Int)] (kOf n)) ∧ Below w.heap.size w w' := by
  have HS := Lib.hid (sizeI_of hn)
  have HB0 := Lib.hid ((Below.refl w.heap.size w).alloc (Nat.le_refl _) (.cells #[.int .i64 (c : Int)] 3))
  have HL : Hid (ListAt intV (w.alloc (.cells #[.int .i64 (c : Int)] 3)) (.slice (some ⟨w.heap.size, 0, none⟩) 1 1) [(c : Int)]) := Lib.hid ⟨_, 1, rfl, Nat.le_refl _, by unfold maxLen; omega, fun _ => ⟨w.heap.size, 0, rfl, fun j hj => by
    obtain rfl : j = 0 := by simpa using hj
    exact World.cell?_alloc_new _ _ _ _⟩⟩
  go_enter Tryd.func65, Tryd.ntmps65
  go_wp2_with fail
  refine (refPack_own _ [(c : Int)] (n : Int) HL.out (by omega)).mono ?_
  rintro e w1 ⟨vn, rfl, hvn, hbn⟩
  have HV : Hid (ListAt wordV w1 vn (packW [(c : Int)] (kOf n))) := Lib.hid (by rw [HS.out] at hvn; exact ListAt.of_owns hvn)
  have HB := Lib.hid (HB0.out.trans (hbn.mono HB0.out.size))
  clear hvn hbn
  go_wp2
  go_ret
  exact ⟨_, rfl, HV.out, HB.out⟩
end Go.Proofs.YtnkkaggepokjeaaDoor
end

section
/- Package geyserref05: Value, where there is none. -/
namespace Go.Proofs.YtnkkaggepokjeaaDoor
open Go.RowKit Go.Extern.Stop Go.Stop Go.Extern

theorem one_row {c n : Nat} (hc : c < n) : bitW (packW [(c : Int)] (kOf n)) = unitV c ∧ (packW [(c : Int)] (kOf n)).length = kOf n ∧ Word (packW [(c : Int)] (kOf n)) := by
  obtain ⟨h1, h2, h3⟩ := packW_packs [(c : Int)] (kOf n)
  refine ⟨?_, h1, h2⟩
  funext d
  by_cases hd : d < 64 * kOf n
  · rw [h3 d hd]
    unfold inP unitV
    simp
    omega
  · rw [bitW_out _ _ (by rw [h1]; omega)]
    have : d ≠ c := by unfold kOf at hd; omega
    simp [unitV, this]

set_option maxRecDepth 1000000 in
theorem Value_clash {w : World} (n size cI : Int) (v : Value) :
    Calls Tryd.prog 39 #[sysV n size v true, .int .i64 cI] w fun e w' => e = .returned (.tuple #[nilS, .int .i64 7]) ∧ Below w.heap.size w w' := by
  have HB0 := Lib.hid ((Below.refl w.heap.size w).alloc (Nat.le_refl _) (.cells #[.int .i64 n, .int .i64 size, v, .bool true] 36))
  unfold sysV
  go_enter Tryd.func39, Tryd.ntmps39
  go_wp2
  go_ret2
  exact ⟨rfl, HB0.out⟩

set_option maxRecDepth 1000000 in
theorem Value_out {w : World} (n size cI : Int) (v : Value) (h : cI < 0 ∨ n ≤ cI) :
    Calls Tryd.prog 39 #[sysV n size v false, .int .i64 cI] w fun e w' => e = .returned (.tuple #[nilS, .int .i64 1]) ∧ Below w.heap.size w w' := by
  have HB0 := Lib.hid ((Below.refl w.heap.size w).alloc (Nat.le_refl _) (.cells #[.int .i64 n, .int .i64 size, v, .bool false] 36))
  unfold sysV
  by_cases h0 : cI < 0
  · clear h
    go_enter Tryd.func39, Tryd.ntmps39
    go_wp2
    go_ret2
    exact ⟨rfl, HB0.out⟩
  · have h1 : n ≤ cI := by omega
    clear h
    go_enter Tryd.func39, Tryd.ntmps39
    go_wp2
    go_ret2
    exact ⟨rfl, HB0.out⟩
end Go.Proofs.YtnkkaggepokjeaaDoor
end

section
/- Package geyserref05: Value, a column of the system. -/
namespace Go.Proofs.YtnkkaggepokjeaaDoor
open Go.RowKit Go.Extern.Stop Go.Stop Go.Extern

set_option maxRecDepth 1000000 in
set_option maxHeartbeats 2000000 in
theorem Value_none {w : World} (n size : Nat) (v : Value) (L : List Eqn) (cc : Nat) (h : EqsAt w v L) (hok : ∀ p ∈ L, EqOk n size p)
    (hn : n + 8 * size ≤ 4096) (hl : L.length ≤ 4095) (hcn : cc < n) (hun : ¬ Sp ((vecsE L n).map (proj n)) (unitV cc)) :
    Calls Tryd.prog 39 #[sysV n size v false, .int .i64 (cc : Int)] w fun e w' => e = .returned (.tuple #[nilS, .int .i64 4]) ∧ Below w.heap.size w w' := by
  have HOKM := Lib.hid (rowsE_ok hok (show n ≤ 4096 by omega) (show L.length ≤ 4096 by omega))
  obtain ⟨h1, h2, h3⟩ := one_row hcn
  have HOKM2 : Hid (MatOk (rowsE L ++ [packW [(cc : Int)] (kOf n)]) n) := Lib.hid ⟨HOKM.out.cols, by simp [rowsE]; omega, fun r hr => by
    rcases List.mem_append.1 hr with h | h
    · exact HOKM.out.words r h
    · rw [List.mem_singleton.1 h]; exact h3, fun r hr => by
    rcases List.mem_append.1 hr with h | h
    · exact HOKM.out.whole r h
    · rw [List.mem_singleton.1 h]
      refine ⟨h2, fun d hd => ?_⟩
      rw [h1]
      simp [unitV]
      omega⟩
  have HUN : Hid (¬ Sp (vecs (rowsE L)) (bitW (packW [(cc : Int)] (kOf n)))) := Lib.hid (by rw [h1, ← vecsE_proj hok]; exact hun)
  have hcI : (0 : Int) ≤ (cc : Int) := by omega
  have hcN : (cc : Int) < (n : Int) := by omega
  have hn4 : n ≤ 4096 := by omega
  have HE0 := Lib.hid h
  have HEL := h
  obtain ⟨ad, cap, rfl, hcap, hcm, -⟩ := HEL
  obtain ⟨w0, hw0, hb0, hs0, hsc⟩ := sys_laid w n size (.slice ad L.length cap) false
  have HB0 := Lib.hid hb0
  have HSC := Lib.hid hsc
  have HW0 := Lib.hid hw0
  clear hsc hb0 hw0 hok h hun h1 h2 h3
  have hs0' := HSC.out.1
  have hs1' := HSC.out.2.1
  have hs2' := HSC.out.2.2.1
  have hs3' := HSC.out.2.2.2
  have HBD : Hid (Below w.heap.size w w0.drew) := Lib.hid HB0.out.drew
  have HSCD : Hid (SysCells w.heap.size w0.drew n size (.slice ad L.length cap) false) := Lib.hid (HSC.out.mono (Below.refl _ _).drew)
  have HROWS : Hid (∀ w', Below w.heap.size w w' → Calls Tryd.prog 58 #[sysV n size (.slice ad L.length cap) false] w' fun e w'' => ∃ v', e = .returned v' ∧ MatAt wordV w'' v' (rowsE L) ∧ Below w'.heap.size w' w'') := Lib.hid fun w' hb => Rows_any n size _ false L (HE0.out.mono hb) (by omega)
  unfold sysV at HROWS ⊢
  go_enter Tryd.func39, Tryd.ntmps39
  go_wp2_with fail
  rw [← HW0.out]
  go_region_law (first
    | (go_simp; go_at_call 58; refine (HROWS.out _ HBD.out).mono ?_; rintro e wA ⟨va, rfl, hva, hbA⟩; have HMA := Lib.hid hva; have HSA := Lib.hid (HSCD.out.mono hbA); have hsA := HSA.out.1; have HBA := Lib.hid (HBD.out.trans (hbA.mono HBD.out.size)); clear hva hbA)
    | (go_simp; go_at_call 65; refine (one_any cc n hn4).mono ?_; rintro e wO ⟨vo, rfl, hvo, hbO⟩; have HVO := Lib.hid hvo; have HMO := Lib.hid (HMA.out.mono hbO); have HSO := Lib.hid (HSA.out.mono hbO); have hsO := HSO.out.1; have HBO := Lib.hid (HBA.out.trans (hbO.mono HBA.out.size)); clear hvo hbO)
    | (go_simp; go_at_call 57; refine (refSpans_any va vo (rowsE L) _ n HMO.out HVO.out HOKM.out HOKM2.out).mono ?_; rintro e wB ⟨bt, rfl, hbt, hbB⟩; have HBT := Lib.hid hbt; have HBB := Lib.hid (HBO.out.trans (hbB.mono HBO.out.size)); clear hbt hbB))
  all_goals
    cases bt with
    | false =>
      go_wp2
      go_ret2
      exact ⟨rfl, HBB.out⟩
    | true => exact absurd (HBT.out.1 rfl) HUN.out
end Go.Proofs.YtnkkaggepokjeaaDoor
end
