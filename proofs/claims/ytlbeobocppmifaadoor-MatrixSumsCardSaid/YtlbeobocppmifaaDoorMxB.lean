/- Package matrix: the stairs; (stairs).rest. -/
import Derived.Test.YtlbeobocppmifaaDoorMxA
import Derived.Deep.RegionWith
import Derived.Deep.LoopGhost
import Derived.WalkMore
namespace Go.Proofs.YtlbeobocppmifaaDoor
open Go.RowKit Go.Extern.Stop Go.Stop Go.Extern

/-- A stair as it lies in the list: nil, or a row of the call's own. -/
def stairV (K : Nat) : Option (Nat × Nat) → Value
  | none => nilS
  | some (g, cap) => .slice (some ⟨g, 0, none⟩) K cap

/-- The stairs in memory: their list in the block S, each stair in a block of its own. -/
structure StO (w : World) (B n K S : Nat) (ad : Nat → Option (Nat × Nat)) (ws : Nat → List Nat) : Prop where
  own : w.ownsRow B 37 1 (.slice (some ⟨S, 0, none⟩) n n) n ((List.range n).map fun c => stairV K (ad c))
  row : ∀ c, c < n → ∀ g cap, ad c = some (g, cap) → g ≠ S ∧ (ws c).length = K ∧ Word (ws c) ∧ w.ownsRow B 46 1 (.slice (some ⟨g, 0, none⟩) K cap) K ((ws c).map wordV)
  nil : ∀ c, ad c = none → ws c = []
  dist : ∀ c d, c < n → d < n → c ≠ d → ∀ g1 c1 g2 c2, ad c = some (g1, c1) → ad d = some (g2, c2) → g1 ≠ g2
  lead : ∀ c, c < n → ad c ≠ none → Lead (bitW (ws c)) c

def uOf (ws : Nat → List Nat) (c : Nat) : Vec := bitW (ws c)

section
variable {w w' : World} {B n K S : Nat} {ad : Nat → Option (Nat × Nat)} {ws : Nat → List Nat}

theorem StO.mono (h : StO w B n K S ad ws) (hb : Below w.heap.size w w') : StO w' B n K S ad ws :=
  ⟨owns_kept h.own hb, fun c hc g cap e => by
    obtain ⟨h1, h2, h3, h4⟩ := h.row c hc g cap e
    exact ⟨h1, h2, h3, owns_kept h4 hb⟩, h.nil, h.dist, h.lead⟩

theorem StO.stair (h : StO w B n K S ad ws) : Stair (uOf ws) n := fun c hc => by
  by_cases e : ad c = none
  · left; unfold uOf; rw [h.nil c e, bitW_nil]
  · exact .inr (h.lead c hc e)

theorem StO.cell (h : StO w B n K S ad ws) {c : Nat} (hc : c < n) : w.cell? ⟨S, c, none⟩ = some (stairV K (ad c)) := by
  rw [h.own.cellAt c (by omega)]
  simp [hc]

theorem StO.word (h : StO w B n K S ad ws) {c g cap : Nat} (hc : c < n) (e : ad c = some (g, cap)) : ∀ j, j < K → w.cell? ⟨g, j, none⟩ = some (.int .u64 (((ws c).getD j 0 : Nat) : Int)) := fun j hj => by
  obtain ⟨_, h2, _, h4⟩ := h.row c hc g cap e
  rw [h4.cellAt j (by omega)]
  have : j < (ws c).length := by omega
  simp [this, wordV]
end

/-- The words ahead of the least column's are 0. -/
theorem lead_words {y : List Nat} (hy : Word y) {c i : Nat} (h : ∀ d, d < c → bitW y d = false) (hi : 64 * i ≤ c) : ∀ j, j < i → y.getD j 0 = 0 := fun j hj => by
  apply Nat.eq_of_testBit_eq
  intro b
  rw [Nat.zero_testBit]
  by_cases hb : b < 64
  · rw [← bitW_at y j b hb]; exact h _ (by omega)
  · exact Nat.testBit_lt_two_pow (Nat.lt_of_lt_of_le (hy.getD j) (Nat.pow_le_pow_right (n := 2) (by decide) (show 64 ≤ b by omega)))
theorem ctz_more {x z : Nat} (hx : x < 18446744073709551616) (hz : z < 64) (h : ∀ b, b ≤ z → x.testBit b = false) : z < Lib.ctz 64 x := by
  by_cases h0 : x = 0
  · subst h0; unfold Lib.ctz; rw [if_pos rfl]; exact hz
  · obtain ⟨h1, h2, h3⟩ := testBit_ctz x h0 hx
    apply Nat.lt_of_not_le
    intro hle
    rw [h _ hle] at h2
    cases h2
theorem ctz_le (x : Nat) (hx : x < 18446744073709551616) : Lib.ctz 64 x ≤ 64 := by
  by_cases h0 : x = 0
  · subst h0; unfold Lib.ctz; rw [if_pos rfl]; exact Nat.le_refl _
  · exact Nat.le_of_lt (testBit_ctz x h0 hx).1
/-- The least column lies in the first word that is not 0. -/
theorem lead_at {x : List Nat} {i : Nat} (hw : Word x) (hz : ∀ j, j < i → x.getD j 0 = 0) (h0 : x.getD i 0 ≠ 0) : Lead (bitW x) (i * 64 + Lib.ctz 64 (x.getD i 0)) := by
  obtain ⟨h1, h2, h3⟩ := testBit_ctz _ h0 (hw.getD i)
  refine ⟨by rw [bitW_at _ _ _ h1]; exact h2, fun d hd => ?_⟩
  by_cases hdi : d / 64 < i
  · unfold bitW; rw [hz _ hdi]; simp
  · have e : d = i * 64 + (d - i * 64) := by omega
    rw [e, bitW_at _ _ _ (by omega)]
    exact h3 _ (by omega)
theorem zero_of_words {x : List Nat} (hz : ∀ j, j < x.length → x.getD j 0 = 0) : bitW x = vzero := by
  funext c
  unfold bitW vzero
  by_cases h : c / 64 < x.length
  · rw [hz _ h]; simp
  · rw [List.getD_eq_getElem?_getD, List.getElem?_eq_none (by omega)]; simp

/-- What is left of a row on its way down. -/
structure RestOk (x r : List Nat) (n K : Nat) (ws : Nat → List Nat) : Prop where
  len : x.length = K
  word : Word x
  low : ∀ c, n ≤ c → bitW x c = false
  span : Sp (stL (uOf ws) n) (vadd (bitW x) (bitW r))

theorem RestOk.add {w : World} {B n K S c g cap : Nat} {ad : Nat → Option (Nat × Nat)} {ws : Nat → List Nat} {x r : List Nat} (h : RestOk x r n K ws) (hs : StO w B n K S ad ws) (hc : c < n) (e : ad c = some (g, cap)) (hlow : ∀ d, n ≤ d → bitW (ws c) d = false) : RestOk (xorW x (ws c)) r n K ws := by
  obtain ⟨_, h2, h3, _⟩ := hs.row c hc g cap e
  have hl : x.length = (ws c).length := by rw [h.len, h2]
  refine ⟨by rw [xorW_length hl, h.len], h.word.xor h3, fun d hd => by rw [bitW_xor hl, h.low d hd, hlow d hd]; rfl, ?_⟩
  rw [bitW_vadd hl, vadd_right]
  exact h.span.add (.mem (mem_stL.2 ⟨c, hc, rfl⟩))

theorem step_word {y s : List Nat} {k : Nat} (hy : Word y) (hs : Word s) (hl : y.length = s.length) (h0 : y.getD k 0 ≠ 0) (hlead : Lead (bitW s) (k * 64 + Lib.ctz 64 (y.getD k 0))) :
    Lib.ctz 64 (y.getD k 0) < Lib.ctz 64 ((xorW y s).getD k 0) := by
  obtain ⟨h1, h2, h3⟩ := testBit_ctz _ h0 (hy.getD k)
  rw [xorW_getD hl]
  refine ctz_more (Nat.xor_lt_two_pow (n := 64) (hy.getD k) (hs.getD k)) h1 fun b hb => ?_
  rw [Nat.testBit_xor]
  by_cases e : b = Lib.ctz 64 (y.getD k 0)
  · have := hlead.1
    rw [bitW_at _ _ _ h1] at this
    rw [e, h2, this]; rfl
  · have hb' : b < Lib.ctz 64 (y.getD k 0) := by omega
    have := hlead.2 (k * 64 + b) (by omega)
    rw [bitW_at _ _ _ (by omega)] at this
    rw [h3 b hb', this]; rfl
theorem xor_zero_words {y s : List Nat} {k : Nat} (hl : y.length = s.length) (h1 : ∀ j, j < k → y.getD j 0 = 0) (h2 : ∀ j, j < k → s.getD j 0 = 0) : ∀ j, j < k → (xorW y s).getD j 0 = 0 := fun j hj => by
  rw [xorW_getD hl, h1 j hj, h2 j hj]; rfl

set_option maxRecDepth 1000000 in
set_option maxHeartbeats 4000000 in
theorem rest_any {w : World} (B n K S : Nat) (ad : Nat → Option (Nat × Nat)) (ws : Nat → List Nat) (v : Value) (r : List Nat) (hS : StO w B n K S ad ws) (hlow : ∀ c, c < n → ∀ d, n ≤ d → bitW (ws c) d = false)
    (h : ListAt wordV w v r) (hr : Word r) (hrl : r.length = K) (hrn : ∀ d, n ≤ d → bitW r d = false) (hn : n ≤ 4096) (hK : K = kOf n) (hT : Tab w) :
    Calls Tryd.prog 37 #[.slice (some ⟨S, 0, none⟩) n n, v] w fun e w' => ∃ v' x, e = .returned v' ∧ w'.ownsRow w.heap.size 46 1 v' K (x.map wordV) ∧ RestOk x r n K ws ∧ (∀ c, Lead (bitW x) c → ad c = none) ∧ Below w.heap.size w w' := by
  have hK64 : K ≤ 64 := by rw [hK]; exact kOf_le hn
  have HST := Lib.hid hS
  have HT := Lib.hid hT
  have HLOW := Lib.hid hlow
  have HL := Lib.hid h
  have HRL := Lib.hid hrl
  have HR0 : Hid (RestOk r r n K ws) := Lib.hid ⟨hrl, hr, hrn, by rw [vadd_self]; exact Sp.zero _⟩
  obtain ⟨a, cap, rfl, -, -, -⟩ := h
  clear hS hT hlow hr hrl hrn hK
  go_enter Tryd.func37, Tryd.ntmps37
  go_wp2_with fail
  go_step3
  go_wp2_with fail
  refine (Clone_any _ r HL.out (by have := HRL.out; omega)).mono ?_
  rintro e w1 ⟨vn, rfl, hvn, hbn⟩
  rw [HRL.out] at hvn
  have HO1 := Lib.hid hvn
  have HB1 := Lib.hid hbn
  have hsz1 := hbn.size
  obtain ⟨an, cn, rfl, hcn, han⟩ := own_open hvn
  have HAN := Lib.hid han
  clear hvn hbn han
  go_wp2_with fail
  go_step3
  go_wp2_with fail
  go_loopg [12] K (fun gk i wr => ∃ k : Nat, k + gk = K ∧ i = .int .i64 k ∧ (∃ x, RestOk x r n K ws ∧ (∀ j, j < k → x.getD j 0 = 0) ∧ wr.ownsRow w.heap.size 46 1 (.slice an K cn) K (x.map wordV)) ∧ Below w.heap.size w wr)
  case atStart => exact ⟨0, by omega, rfl, ⟨r, HR0.out, fun j hj => by omega, HO1.out⟩, HB1.out⟩
  case round =>
    obtain ⟨k, hk, rfl, ⟨x, hx, hxz, hown⟩, hbel⟩ := hrel
    have hsz := hbel.size
    cases gk with
    | zero =>
      have hkK : k = K := by omega
      have HX := Lib.hid hx
      have HZ : Hid (bitW x = vzero) := Lib.hid (zero_of_words (by rw [hx.len, ← hkK]; exact hxz))
      have HO := Lib.hid hown
      have HB := Lib.hid hbel
      have hlt : ¬ (k : Int) < (K : Int) := by omega
      clear hx hxz hown hbel
      go_wp2_with fail
      try rw [Exit.noGoto_ret]
      go_ret
      exact ⟨_, x, rfl, HO.out, HX.out, fun c hc => absurd HZ.out hc.ne, HB.out⟩
    | succ go =>
      have hlt : k < K := by omega
      obtain ⟨g, rfl⟩ := HAN.out (by omega)
      have HX := Lib.hid hx
      have HXZ := Lib.hid hxz
      have HO := Lib.hid hown
      have HB := Lib.hid hbel
      clear hx hxz hown hbel
      go_wp2_with fail
      go_loopg [7] 64 (fun gk _ wq => (∃ x, RestOk x r n K ws ∧ (∀ j, j < k → x.getD j 0 = 0) ∧ wq.ownsRow w.heap.size 46 1 (.slice (some ⟨g, 0, none⟩) K cn) K (x.map wordV) ∧ 64 - Lib.ctz 64 (x.getD k 0) ≤ gk) ∧ Below w.heap.size w wq)
      case atStart => exact ⟨⟨x, HX.out, HXZ.out, HO.out, by omega⟩, HB.out⟩
      case round =>
        clear HX HXZ HO HB hsz
        obtain ⟨⟨y, hy, hyz, hown, hgk⟩, hbel⟩ := hrel
        have hsz := hbel.size
        have hyl := hy.len
        have hxc : wr.cell? ⟨g, k, none⟩ = some (.int .u64 ((y.getD k 0 : Nat) : Int)) := by
          rw [hown.cellAt k (by omega)]
          have : k < y.length := by omega
          simp [this, wordV]
        have hwlt := hy.word.getD k
        have HY := Lib.hid hy
        have HYZ := Lib.hid hyz
        have HO := Lib.hid hown
        have HB := Lib.hid hbel
        have HGK := Lib.hid hgk
        by_cases h0 : y.getD k 0 = 0
        · have HYZ2 : Hid (∀ j, j < k + 1 → y.getD j 0 = 0) := Lib.hid fun j hj => by
            by_cases e : j = k
            · subst e; exact h0
            · exact HYZ.out j (by omega)
          rw [h0] at hxc
          clear hy hyz hown hgk hbel hyl hwlt h0
          go_wp2_with fail
          go_roundg go
          case measure => omega
          case rel => exact ⟨k + 1, by omega, by go_num, ⟨y, HY.out, HYZ2.out, HO.out⟩, HB.out⟩
        · have hlead := lead_at hy.word hyz h0
          have hcn2 : k * 64 + Lib.ctz 64 (y.getD k 0) < n := by
            apply Nat.lt_of_not_le
            intro hle
            have := hy.low _ hle
            rw [hlead.1] at this
            cases this
          have hz64 := (testBit_ctz _ h0 hwlt).1
          have hx0 : (((y.getD k 0 : Nat) : Int) != 0) = true := by simp only [bne_iff_ne, ne_eq]; omega
          have hs := (HST.out.mono hbel)
          have hsc := hs.cell hcn2
          have hci : (k : Int) * 64 + ((Lib.ctz 64 (y.getD k 0) : Nat) : Int) < (n : Int) := by omega
          have HW := Lib.hid hwlt
          have HH0 := Lib.hid h0
          have HLD := Lib.hid hlead
          cases had : ad (k * 64 + Lib.ctz 64 (y.getD k 0)) with
          | none =>
            have HEND : Hid (∀ c, Lead (bitW y) c → ad c = none) := Lib.hid fun c hc => by
              have := hc.unique hlead
              subst this
              exact had
            rw [had] at hsc
            have hsc' : wr.cell? ⟨S, k * 64 + Lib.ctz 64 (y.getD k 0), none⟩ = some (.slice none 0 0) := hsc
            have hq : (binOp .eql 37 (.slice none 0 0) (.slice none 0 0)).run Tryd.prog wr = .ok (.bool true) wr := Lib.run_eql_slice_nil wr 37 46 none 0 0 0 0 Tryd.underlying37
            clear hy hyz hown hgk hbel hyl hwlt h0 hlead had hs hsc HLD HH0
            generalize y.getD k 0 = X at *
            go_wp2_with fail
            refine (Tz64_any X HW.out _ (HT.out.mono HB.out)).mono ?_
            rintro e w2 ⟨rfl, rfl⟩
            generalize Lib.ctz 64 X = z at *
            go_wp2_with fail
            try rw [Exit.noGoto_ret]
            go_ret
            exact ⟨_, y, rfl, HO.out, HY.out, HEND.out, HB.out⟩
          | some p =>
            obtain ⟨gs, cs⟩ := p
            obtain ⟨g3, rfl⟩ : ∃ g3, gk = g3 + 1 := ⟨gk - 1, by omega⟩
            obtain ⟨hgS, hwl, hww, hwo⟩ := hs.row _ hcn2 gs cs had
            have hled := hs.lead _ hcn2 (by rw [had]; exact fun h => by cases h)
            have hyw : y.length = (ws (k * 64 + Lib.ctz 64 (y.getD k 0))).length := by rw [hwl, hyl]
            have HS1 := Lib.hid (step_word hy.word hww hyw h0 hled)
            have hzs := lead_words hww hled.2 (show 64 * k ≤ k * 64 + Lib.ctz 64 (y.getD k 0) by omega)
            have HS2 := Lib.hid (xor_zero_words hyw hyz hzs)
            have HS3 := Lib.hid (RestOk.add hy hs hcn2 had (HLOW.out _ hcn2))
            have hcs : K ≤ cs := by
              obtain ⟨ao, co, e, hco, _⟩ := own_open hwo
              cases e; exact hco
            have HADD : Hid (∀ ca cb, Calls Tryd.prog 57 #[.slice (some ⟨g, k, none⟩) (K - k) ca, .slice (some ⟨gs, k, none⟩) (K - k) cb] wr.drew fun e w' => e = .returned (.tuple #[]) ∧ w'.ownsRow w.heap.size 46 1 (.slice (some ⟨g, 0, none⟩) K cn) K ((xorW y (ws (k * 64 + Lib.ctz 64 (y.getD k 0)))).map wordV) ∧ wr.drew.grownBy w' (some g)) := Lib.hid fun ca cb =>
              add_any w.heap.size g K cn k (K - k) ca gs cb y (ws (k * 64 + Lib.ctz 64 (y.getD k 0))) hown.drew hy.word hyl hww hwl (fun j hj => hs.word hcn2 had j hj) (by have h1 := ((HST.out.row _ hcn2 gs cs had).2.2.2.lt gs rfl).2; have h2 := (hown.lt g rfl).1; omega) (by omega) hzs (by omega)
            rw [had] at hsc
            have hsc' : wr.cell? ⟨S, k * 64 + Lib.ctz 64 (y.getD k 0), none⟩ = some (.slice (some ⟨gs, 0, none⟩) K cs) := hsc
            have hq : (binOp .eql 37 (.slice (some ⟨gs, 0, none⟩) K cs) (.slice none 0 0)).run Tryd.prog wr = .ok (.bool false) wr := Lib.run_eql_slice_nil wr 37 46 (some ⟨gs, 0, none⟩) K cs 0 0 Tryd.underlying37
            have HZ64 := Lib.hid hz64
            have hk1 : (k : Int) ≤ (cn : Int) := by omega
            have hk2 : (k : Int) ≤ (cs : Int) := by omega
            have hk3 : ¬ cn = k := by omega
            have hk4 : ¬ cs = k := by omega
            have hk5 : (k : Int) ≤ (K : Int) := by omega
            clear hy hyz hown hgk hbel hyl hwlt h0 hlead had hs hsc HLD HH0 hwl hww hwo hled hyw hzs hgS
            generalize xorW y (ws (k * 64 + Lib.ctz 64 (y.getD k 0))) = y2 at *
            generalize y.getD k 0 = X at *
            go_wp2_with fail
            refine (Tz64_any X HW.out _ (HT.out.mono HB.out)).mono ?_
            rintro e w2 ⟨rfl, rfl⟩
            generalize Lib.ctz 64 X = z at *
            go_wp2_with fail
            go_region_with (go_at_call 57; (with_reducible refine (HADD.out _ _).mono ?_); rintro e w3 ⟨rfl, ho3, hg3⟩; have HO3 := Lib.hid ho3; have HB3 := Lib.hid (HB.out.drew.grown hg3 hsz (fun j hj => by cases hj; exact (HO.out.lt g rfl).1)); clear ho3 hg3)
            go_wp2
            go_roundg g3
            case measure => omega
            case rel => exact ⟨⟨y2, HS3.out, HS2.out, HO3.out, by have := HS1.out; have := HGK.out; omega⟩, HB3.out⟩
end Go.Proofs.YtlbeobocppmifaaDoor
