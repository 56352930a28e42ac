import Derived.Test.YticoaioeeppapaaGreatDoorG29
import Derived.Deep.RegionWith
import Derived.Deep.LoopGhost
import Derived.WalkMore
import Derived.Deep.Cut
import Derived.Test.YticoaioeeppapaaGreatDoorG19
import Derived.RangeFuncNested
import Derived.RangeFuncBound
import Derived.RangeFuncCalls
import Derived.RangeFuncLeaves
import Derived.Shelf.Abstract
import Derived.Shelf.RegionOpen
import Derived.OwnWalkIn
import Derived.TacticsInMore
import Derived.LoopNIn
import Derived.LoopIn

section
/- Package matrix: the stairs; (stairs).rest. -/
namespace Go.Proofs.YticoaioeeppapaaGreatDoor
open Go.RowKit Go.Extern.Stop Go.Stop Go.Extern

/-- A stair as it lies in the list: nil, or a row of the call's own. -/
def stairV (K : Nat) : Option (Nat × Nat) → Value
  | none => nilS
  | some (g, cap) => .slice (some ⟨g, 0, none⟩) K cap

/-- The stairs in memory: their list in the block S, each stair in a block of its own. -/
structure StO (w : World) (B n K S : Nat) (ad : Nat → Option (Nat × Nat)) (ws : Nat → List Nat) : Prop where
  own : w.ownsRow B 62 1 (.slice (some ⟨S, 0, none⟩) n n) n ((List.range n).map fun c => stairV K (ad c))
  row : ∀ c, c < n → ∀ g cap, ad c = some (g, cap) → g ≠ S ∧ (ws c).length = K ∧ Word (ws c) ∧ w.ownsRow B 120 1 (.slice (some ⟨g, 0, none⟩) K cap) K ((ws c).map wordV)
  nil : ∀ c, ad c = none → ws c = []
  dist : ∀ c d, c < n → d < n → c ≠ d → ∀ g1 c1 g2 c2, ad c = some (g1, c1) → ad d = some (g2, c2) → g1 ≠ g2
  lead : ∀ c, c < n → ad c ≠ none → Lead (bitW (ws c)) c

def uOf (ws : Nat → List Nat) (c : Nat) : Vec := bitW (ws c)

section
variable {w w' : World} {B n K S : Nat} {ad : Nat → Option (Nat × Nat)} {ws : Nat → List Nat}

theorem StO.mono (h : StO w B n K S ad ws) (hb : Below w.heap.size w w') : StO w' B n K S ad ws :=
  ⟨owns_kept h.own hb, fun c hc g cap e => by
    obtain ⟨h1, h2, h3, h4⟩ := h.row c hc g cap e
    exact ⟨h1, h2, h3, owns_kept h4 hb⟩, h.nil, h.dist, h.lead⟩

theorem StO.stair (h : StO w B n K S ad ws) : Stair (uOf ws) n := fun c hc => by
  by_cases e : ad c = none
  · left; unfold uOf; rw [h.nil c e, bitW_nil]
  · exact .inr (h.lead c hc e)

theorem StO.cell (h : StO w B n K S ad ws) {c : Nat} (hc : c < n) : w.cell? ⟨S, c, none⟩ = some (stairV K (ad c)) := by
  rw [h.own.cellAt c (by omega)]
  simp [hc]

theorem StO.word (h : StO w B n K S ad ws) {c g cap : Nat} (hc : c < n) (e : ad c = some (g, cap)) : ∀ j, j < K → w.cell? ⟨g, j, none⟩ = some (.int .u64 (((ws c).getD j 0 : Nat) : Int)) := fun j hj => by
  obtain ⟨_, h2, _, h4⟩ := h.row c hc g cap e
  rw [h4.cellAt j (by omega)]
  have : j < (ws c).length := by omega
  simp [this, wordV]
end

/-- What is left of a row on its way down. -/
structure RestOk (x r : List Nat) (n K : Nat) (ws : Nat → List Nat) : Prop where
  len : x.length = K
  word : Word x
  low : ∀ c, n ≤ c → bitW x c = false
  span : Sp (stL (uOf ws) n) (vadd (bitW x) (bitW r))

theorem RestOk.add {w : World} {B n K S c g cap : Nat} {ad : Nat → Option (Nat × Nat)} {ws : Nat → List Nat} {x r : List Nat} (h : RestOk x r n K ws) (hs : StO w B n K S ad ws) (hc : c < n) (e : ad c = some (g, cap)) (hlow : ∀ d, n ≤ d → bitW (ws c) d = false) : RestOk (xorW x (ws c)) r n K ws := by
  obtain ⟨_, h2, h3, _⟩ := hs.row c hc g cap e
  have hl : x.length = (ws c).length := by rw [h.len, h2]
  refine ⟨by rw [xorW_length hl, h.len], h.word.xor h3, fun d hd => by rw [bitW_xor hl, h.low d hd, hlow d hd]; rfl, ?_⟩
  rw [bitW_vadd hl, vadd_right]
  exact h.span.add (.mem (mem_stL.2 ⟨c, hc, rfl⟩))

set_option maxRecDepth 1000000 in
set_option maxHeartbeats 4000000 in
theorem rest_any {w : World} (B n K S : Nat) (ad : Nat → Option (Nat × Nat)) (ws : Nat → List Nat) (v : Value) (r : List Nat) (hS : StO w B n K S ad ws) (hlow : ∀ c, c < n → ∀ d, n ≤ d → bitW (ws c) d = false)
    (h : ListAt wordV w v r) (hr : Word r) (hrl : r.length = K) (hrn : ∀ d, n ≤ d → bitW r d = false) (hn : n ≤ 4096) (hK : K = kOf n) (hT : Tab w) :
    Calls Tryz.prog 95 #[.slice (some ⟨S, 0, none⟩) n n, v] w fun e w' => ∃ v' x, e = .returned v' ∧ w'.ownsRow w.heap.size 120 1 v' K (x.map wordV) ∧ RestOk x r n K ws ∧ (∀ c, Lead (bitW x) c → ad c = none) ∧ Below w.heap.size w w' := by
  have hK64 : K ≤ 64 := by rw [hK]; exact kOf_le hn
  have HST := Lib.hid hS
  have HT := Lib.hid hT
  have HLOW := Lib.hid hlow
  have HL := Lib.hid h
  have HRL := Lib.hid hrl
  have HR0 : Hid (RestOk r r n K ws) := Lib.hid ⟨hrl, hr, hrn, by rw [vadd_self]; exact Sp.zero _⟩
  obtain ⟨a, cap, rfl, -, -, -⟩ := h
  clear hS hT hlow hr hrl hrn hK
  go_enter Tryz.func95, Tryz.ntmps95
  go_wp2_with fail
  go_step3
  go_wp2_with fail
  refine (Clone_any _ r HL.out (by have := HRL.out; omega)).mono ?_
  rintro e w1 ⟨vn, rfl, hvn, hbn⟩
  rw [HRL.out] at hvn
  have HO1 := Lib.hid hvn
  have HB1 := Lib.hid hbn
  have hsz1 := hbn.size
  obtain ⟨an, cn, rfl, hcn, han⟩ := own_open hvn
  have HAN := Lib.hid han
  clear hvn hbn han
  go_wp2_with fail
  go_step3
  go_wp2_with fail
  go_loopg [12] K (fun gk i wr => ∃ k : Nat, k + gk = K ∧ i = .int .i64 k ∧ (∃ x, RestOk x r n K ws ∧ (∀ j, j < k → x.getD j 0 = 0) ∧ wr.ownsRow w.heap.size 120 1 (.slice an K cn) K (x.map wordV)) ∧ Below w.heap.size w wr)
  case atStart => exact ⟨0, by omega, rfl, ⟨r, HR0.out, fun j hj => by omega, HO1.out⟩, HB1.out⟩
  case round =>
    obtain ⟨k, hk, rfl, ⟨x, hx, hxz, hown⟩, hbel⟩ := hrel
    have hsz := hbel.size
    cases gk with
    | zero =>
      have hkK : k = K := by omega
      have HX := Lib.hid hx
      have HZ : Hid (bitW x = vzero) := Lib.hid (zero_of_words (by rw [hx.len, ← hkK]; exact hxz))
      have HO := Lib.hid hown
      have HB := Lib.hid hbel
      have hlt : ¬ (k : Int) < (K : Int) := by omega
      clear hx hxz hown hbel
      go_wp2_with fail
      try rw [Exit.noGoto_ret]
      go_ret
      exact ⟨_, x, rfl, HO.out, HX.out, fun c hc => absurd HZ.out hc.ne, HB.out⟩
    | succ go =>
      have hlt : k < K := by omega
      obtain ⟨g, rfl⟩ := HAN.out (by omega)
      have HX := Lib.hid hx
      have HXZ := Lib.hid hxz
      have HO := Lib.hid hown
      have HB := Lib.hid hbel
      clear hx hxz hown hbel
      go_wp2_with fail
      go_loopg [7] 64 (fun gk _ wq => (∃ x, RestOk x r n K ws ∧ (∀ j, j < k → x.getD j 0 = 0) ∧ wq.ownsRow w.heap.size 120 1 (.slice (some ⟨g, 0, none⟩) K cn) K (x.map wordV) ∧ 64 - Lib.ctz 64 (x.getD k 0) ≤ gk) ∧ Below w.heap.size w wq)
      case atStart => exact ⟨⟨x, HX.out, HXZ.out, HO.out, by omega⟩, HB.out⟩
      case round =>
        clear HX HXZ HO HB hsz
        obtain ⟨⟨y, hy, hyz, hown, hgk⟩, hbel⟩ := hrel
        have hsz := hbel.size
        have hyl := hy.len
        have hxc : wr.cell? ⟨g, k, none⟩ = some (.int .u64 ((y.getD k 0 : Nat) : Int)) := by
          rw [hown.cellAt k (by omega)]
          have : k < y.length := by omega
          simp [this, wordV]
        have hwlt := hy.word.getD k
        have HY := Lib.hid hy
        have HYZ := Lib.hid hyz
        have HO := Lib.hid hown
        have HB := Lib.hid hbel
        have HGK := Lib.hid hgk
        by_cases h0 : y.getD k 0 = 0
        · have HYZ2 : Hid (∀ j, j < k + 1 → y.getD j 0 = 0) := Lib.hid fun j hj => by
            by_cases e : j = k
            · subst e; exact h0
            · exact HYZ.out j (by omega)
          rw [h0] at hxc
          clear hy hyz hown hgk hbel hyl hwlt h0
          go_wp2_with fail
          go_roundg go
          case measure => omega
          case rel => exact ⟨k + 1, by omega, by go_num, ⟨y, HY.out, HYZ2.out, HO.out⟩, HB.out⟩
        · have hlead := lead_at hy.word hyz h0
          have hcn2 : k * 64 + Lib.ctz 64 (y.getD k 0) < n := by
            apply Nat.lt_of_not_le
            intro hle
            have := hy.low _ hle
            rw [hlead.1] at this
            cases this
          have hz64 := (testBit_ctz _ h0 hwlt).1
          have hx0 : (((y.getD k 0 : Nat) : Int) != 0) = true := by simp only [bne_iff_ne, ne_eq]; omega
          have hs := (HST.out.mono hbel)
          have hsc := hs.cell hcn2
          have hci : (k : Int) * 64 + ((Lib.ctz 64 (y.getD k 0) : Nat) : Int) < (n : Int) := by omega
          have HW := Lib.hid hwlt
          have HH0 := Lib.hid h0
          have HLD := Lib.hid hlead
          cases had : ad (k * 64 + Lib.ctz 64 (y.getD k 0)) with
          | none =>
            have HEND : Hid (∀ c, Lead (bitW y) c → ad c = none) := Lib.hid fun c hc => by
              have := hc.unique hlead
              subst this
              exact had
            rw [had] at hsc
            have hsc' : wr.cell? ⟨S, k * 64 + Lib.ctz 64 (y.getD k 0), none⟩ = some (.slice none 0 0) := hsc
            have hq : (binOp .eql 62 (.slice none 0 0) (.slice none 0 0)).run Tryz.prog wr = .ok (.bool true) wr := Lib.run_eql_slice_nil wr 62 120 none 0 0 0 0 Tryz.underlying62
            clear hy hyz hown hgk hbel hyl hwlt h0 hlead had hs hsc HLD HH0
            generalize y.getD k 0 = X at *
            go_wp2_with fail
            refine (Tz64_any X HW.out _ (HT.out.mono HB.out)).mono ?_
            rintro e w2 ⟨rfl, rfl⟩
            generalize Lib.ctz 64 X = z at *
            go_wp2_with fail
            try rw [Exit.noGoto_ret]
            go_ret
            exact ⟨_, y, rfl, HO.out, HY.out, HEND.out, HB.out⟩
          | some p =>
            obtain ⟨gs, cs⟩ := p
            obtain ⟨g3, rfl⟩ : ∃ g3, gk = g3 + 1 := ⟨gk - 1, by omega⟩
            obtain ⟨hgS, hwl, hww, hwo⟩ := hs.row _ hcn2 gs cs had
            have hled := hs.lead _ hcn2 (by rw [had]; exact fun h => by cases h)
            have hyw : y.length = (ws (k * 64 + Lib.ctz 64 (y.getD k 0))).length := by rw [hwl, hyl]
            have HS1 := Lib.hid (step_word hy.word hww hyw h0 hled)
            have hzs := lead_words hww hled.2 (show 64 * k ≤ k * 64 + Lib.ctz 64 (y.getD k 0) by omega)
            have HS2 := Lib.hid (xor_zero_words hyw hyz hzs)
            have HS3 := Lib.hid (RestOk.add hy hs hcn2 had (HLOW.out _ hcn2))
            have hcs : K ≤ cs := by
              obtain ⟨ao, co, e, hco, _⟩ := own_open hwo
              cases e; exact hco
            have HADD : Hid (∀ ca cb, Calls Tryz.prog 121 #[.slice (some ⟨g, k, none⟩) (K - k) ca, .slice (some ⟨gs, k, none⟩) (K - k) cb] wr.drew fun e w' => e = .returned (.tuple #[]) ∧ w'.ownsRow w.heap.size 120 1 (.slice (some ⟨g, 0, none⟩) K cn) K ((xorW y (ws (k * 64 + Lib.ctz 64 (y.getD k 0)))).map wordV) ∧ wr.drew.grownBy w' (some g)) := Lib.hid fun ca cb =>
              add_any w.heap.size g K cn k (K - k) ca gs cb y (ws (k * 64 + Lib.ctz 64 (y.getD k 0))) hown.drew hy.word hyl hww hwl (fun j hj => hs.word hcn2 had j hj) (by have h1 := ((HST.out.row _ hcn2 gs cs had).2.2.2.lt gs rfl).2; have h2 := (hown.lt g rfl).1; omega) (by omega) hzs (by omega)
            rw [had] at hsc
            have hsc' : wr.cell? ⟨S, k * 64 + Lib.ctz 64 (y.getD k 0), none⟩ = some (.slice (some ⟨gs, 0, none⟩) K cs) := hsc
            have hq : (binOp .eql 62 (.slice (some ⟨gs, 0, none⟩) K cs) (.slice none 0 0)).run Tryz.prog wr = .ok (.bool false) wr := Lib.run_eql_slice_nil wr 62 120 (some ⟨gs, 0, none⟩) K cs 0 0 Tryz.underlying62
            have HZ64 := Lib.hid hz64
            have hk1 : (k : Int) ≤ (cn : Int) := by omega
            have hk2 : (k : Int) ≤ (cs : Int) := by omega
            have hk3 : ¬ cn = k := by omega
            have hk4 : ¬ cs = k := by omega
            have hk5 : (k : Int) ≤ (K : Int) := by omega
            clear hy hyz hown hgk hbel hyl hwlt h0 hlead had hs hsc HLD HH0 hwl hww hwo hled hyw hzs hgS
            generalize xorW y (ws (k * 64 + Lib.ctz 64 (y.getD k 0))) = y2 at *
            generalize y.getD k 0 = X at *
            go_wp2_with fail
            refine (Tz64_any X HW.out _ (HT.out.mono HB.out)).mono ?_
            rintro e w2 ⟨rfl, rfl⟩
            generalize Lib.ctz 64 X = z at *
            go_wp2_with fail
            go_region_with (go_at_call 121; (with_reducible refine (HADD.out _ _).mono ?_); rintro e w3 ⟨rfl, ho3, hg3⟩; have HO3 := Lib.hid ho3; have HB3 := Lib.hid (HB.out.drew.grown hg3 hsz (fun j hj => by cases hj; exact (HO.out.lt g rfl).1)); clear ho3 hg3)
            go_wp2
            go_roundg g3
            case measure => omega
            case rel => exact ⟨⟨y2, HS3.out, HS2.out, HO3.out, by have := HS1.out; have := HGK.out; omega⟩, HB3.out⟩
end Go.Proofs.YticoaioeeppapaaGreatDoor
end

section
/- Package matrix: gather. -/
namespace Go.Proofs.YticoaioeeppapaaGreatDoor
open Go.RowKit Go.Extern.Stop Go.Stop Go.Extern

/-- Rows of unlike elements lie in unlike blocks. -/
theorem own_ne {w : World} {B B' n n' : Nat} {e e' : TypeId} {v v' : Value} {xs xs' : List Value} (h : w.ownsRow B e 1 v n xs) (h' : w.ownsRow B' e' 1 v' n' xs') (hne : e ≠ e') : v.ownBlock = none ∨ v.ownBlock ≠ v'.ownBlock := by
  rcases h.2 with ⟨rfl, _⟩ | ⟨g, cap, cur, rfl, _, hg, _⟩
  · exact .inl rfl
  · right
    intro hb
    rcases h'.2 with ⟨rfl, _⟩ | ⟨g', cap', cur', rfl, _, hg', _⟩
    · simp [Value.ownBlock] at hb
    · have : g = g' := by simpa [Value.ownBlock] using hb
      subst this
      rw [hg] at hg'
      cases hg'
      exact hne rfl

section
variable {w w' : World} {B n K S : Nat} {ad : Nat → Option (Nat × Nat)} {ws : Nat → List Nat}

/-- The stairs are kept where a row of other elements grows. -/
theorem StO.grown {B' q : Nat} {e : TypeId} {v : Value} {xs : List Value} (h : StO w B n K S ad ws) (hg : w.grownBy w' v.ownBlock) (hv : w.ownsRow B' e 1 v q xs) (h1 : 62 ≠ e) (h2 : 120 ≠ e) : StO w' B n K S ad ws :=
  ⟨h.own.kept hg (own_ne h.own hv h1), fun c hc g cap e' => by
    obtain ⟨a1, a2, a3, a4⟩ := h.row c hc g cap e'
    exact ⟨a1, a2, a3, a4.kept hg (own_ne a4 hv h2)⟩, h.nil, h.dist, h.lead⟩

theorem StO.put {c g cap : Nat} {x : List Nat} (h : StO w B n K S ad ws) (hc : c < n) (hown : w.ownsRow B 120 1 (.slice (some ⟨g, 0, none⟩) K cap) K (x.map wordV)) (hxl : x.length = K) (hx : Word x) (hl : Lead (bitW x) c)
    (hS : g ≠ S) (hnew : ∀ d, d < n → ∀ g1 c1, ad d = some (g1, c1) → g1 ≠ g) :
    StO (w.setCell ⟨S, c, none⟩ (.slice (some ⟨g, 0, none⟩) K cap)) B n K S (fun d => if d = c then some (g, cap) else ad d) (fun d => if d = c then x else ws d) := by
  obtain ⟨s1, s2⟩ := h.own.stored c (.slice (some ⟨g, 0, none⟩) K cap)
  refine ⟨?_, fun d hd g1 c1 e => ?_, fun d e => ?_, fun d1 d2 h1 h2 h12 g1 c1 g2 c2 e1 e2 => ?_, fun d hd e => ?_⟩
  · have e : (List.range n).map (fun d => stairV K (if d = c then some (g, cap) else ad d)) = ((List.range n).map fun d => stairV K (ad d)).set c (.slice (some ⟨g, 0, none⟩) K cap) := by
      apply List.ext_getElem
      · simp
      · intro i a1 a2
        simp only [List.getElem_map, List.getElem_range, List.getElem_set]
        by_cases ei : i = c
        · subst ei; simp [stairV]
        · rw [if_neg ei, if_neg (fun h => ei h.symm)]
    rw [e]; exact s1
  · by_cases ed : d = c
    · subst ed
      rw [if_pos rfl] at e
      cases e
      exact ⟨hS, by rw [if_pos rfl]; exact hxl, by rw [if_pos rfl]; exact hx, by rw [if_pos rfl]; exact hown.kept s2 (.inr (by intro e; exact hS (by simpa [Value.ownBlock] using e)))⟩
    · rw [if_neg ed] at e
      obtain ⟨a1, a2, a3, a4⟩ := h.row d hd g1 c1 e
      exact ⟨a1, by rw [if_neg ed]; exact a2, by rw [if_neg ed]; exact a3, by rw [if_neg ed]; exact a4.kept s2 (.inr (by intro e; exact a1 (by simpa [Value.ownBlock] using e)))⟩
  · by_cases ed : d = c
    · subst ed; rw [if_pos rfl] at e; cases e
    · rw [if_neg ed] at e; rw [if_neg ed]; exact h.nil d e
  · by_cases a1 : d1 = c
    · subst a1
      rw [if_pos rfl] at e1
      cases e1
      rw [if_neg (fun h => h12 h.symm)] at e2
      exact fun h => hnew d2 h2 g2 c2 e2 h.symm
    · rw [if_neg a1] at e1
      by_cases a2 : d2 = c
      · subst a2
        rw [if_pos rfl] at e2
        cases e2
        exact hnew d1 h1 g1 c1 e1
      · rw [if_neg a2] at e2
        exact h.dist d1 d2 h1 h2 h12 g1 c1 g2 c2 e1 e2
  · by_cases ed : d = c
    · subst ed; rw [if_pos rfl]; exact hl
    · rw [if_neg ed] at e; rw [if_neg ed]; exact h.lead d hd e
end

theorem uOf_put (ws : Nat → List Nat) (c : Nat) (x : List Nat) : uOf (fun d => if d = c then x else ws d) = upd (uOf ws) c (bitW x) := by
  funext d
  unfold uOf upd
  show bitW (if d = c then x else ws d) = _
  by_cases e : d = c
  · rw [if_pos e, if_pos e]
  · rw [if_neg e, if_neg e]

def LowW (ws : Nat → List Nat) (n : Nat) : Prop := ∀ c, c < n → ∀ d, n ≤ d → bitW (ws c) d = false
theorem LowW.put {ws : Nat → List Nat} {n c : Nat} {x : List Nat} (h : LowW ws n) (hx : ∀ d, n ≤ d → bitW x d = false) : LowW (fun d => if d = c then x else ws d) n := fun e he d hd => by
  show bitW (if e = c then x else ws e) d = false
  by_cases h1 : e = c
  · rw [if_pos h1]; exact hx d hd
  · rw [if_neg h1]; exact h e he d hd

theorem take_vecs {L : List (List Nat)} {k : Nat} (h : k < L.length) : (vecs L).take (k + 1) = (vecs L).take k ++ [bitW (L.getD k [])] := by
  rw [take_snoc (by rw [vecs_length]; exact h), vecs_getD]

/-- The frame of gather's loop. -/
structure GaIn (w wr : World) (n k : Nat) (L : List (List Nat)) (p : Value) (ad : Nat → Option (Nat × Nat)) (ws : Nat → List Nat) : Prop where
  st : StO wr w.heap.size n (kOf n) w.heap.size ad ws
  low : LowW ws n
  span : SpEq (stL (uOf ws) n) ((vecs L).take k)
  picks : wr.ownsRow w.heap.size 3 1 p (picksTo (vecs L) k).length ((picksTo (vecs L) k).map colV)
  bel : Below w.heap.size w wr

theorem GaIn.start {w wr : World} {n : Nat} {L : List (List Nat)} (h : wr.ownsRow w.heap.size 62 1 (.slice (some ⟨w.heap.size, 0, none⟩) n n) n (List.replicate n nilS)) (hb : Below w.heap.size w wr) :
    GaIn w wr n 0 L nilS (fun _ => none) (fun _ => []) := by
  refine ⟨⟨?_, fun _ _ _ _ e => (by cases e), fun _ _ => rfl, fun _ _ _ _ _ _ _ _ _ e => (by cases e), fun _ _ e => absurd rfl e⟩, fun _ _ d _ => by rw [bitW_nil]; rfl, ?_, World.ownsRow_nil _ _ _ _, hb⟩
  · have : (List.range n).map (fun _ => stairV (kOf n) none) = List.replicate n nilS := by
      apply List.ext_getElem
      · simp
      · intro i a1 a2; simp [stairV]
    rw [this]; exact h
  · refine .of (fun r hr => ?_) (fun r hr => by simp at hr)
    obtain ⟨c, _, rfl⟩ := mem_stL.1 hr
    unfold uOf
    rw [bitW_nil]
    exact Sp.zero _

section
variable {w wr w1 : World} {n k : Nat} {L : List (List Nat)} {p : Value} {ad : Nat → Option (Nat × Nat)} {ws : Nat → List Nat} {x : List Nat}

/-- A row that hangs on those ahead. -/
theorem GaIn.hangs (h : GaIn w wr n k L p ad ws) (hk : k < L.length) (hx : RestOk x (L.getD k []) n (kOf n) ws) (hz : bitW x = vzero) (hb : Below wr.heap.size wr w1) : GaIn w w1 n (k + 1) L p ad ws := by
  have hs := hx.span
  rw [hz] at hs
  obtain ⟨h1, h2⟩ := gather_in h.span hs
  have hp : picksTo (vecs L) (k + 1) = picksTo (vecs L) k := picksTo_in (by rw [vecs_getD]; exact h1)
  exact ⟨h.st.mono hb, h.low, by rw [take_vecs hk]; exact h2, by rw [hp]; exact owns_kept h.picks hb, h.bel.trans (hb.mono h.bel.size)⟩

/-- A row that brings a stair: what is in memory ahead of the append to the places. -/
theorem GaIn.brings {c g cap : Nat} (h : GaIn w wr n k L p ad ws) (hk : k < L.length) (hx : RestOk x (L.getD k []) n (kOf n) ws) (hl : Lead (bitW x) c) (hc : ad c = none) (hcn : c < n) (hb : Below wr.heap.size wr w1)
    (hown : w1.ownsRow wr.heap.size 120 1 (.slice (some ⟨g, 0, none⟩) (kOf n) cap) (kOf n) (x.map wordV)) :
    StO (w1.setCell ⟨w.heap.size, c, none⟩ (.slice (some ⟨g, 0, none⟩) (kOf n) cap)) w.heap.size n (kOf n) w.heap.size (fun d => if d = c then some (g, cap) else ad d) (fun d => if d = c then x else ws d) ∧
    LowW (fun d => if d = c then x else ws d) n ∧ SpEq (stL (uOf (fun d => if d = c then x else ws d)) n) ((vecs L).take (k + 1)) ∧ picksTo (vecs L) (k + 1) = picksTo (vecs L) k ++ [k] ∧
    (w1.setCell ⟨w.heap.size, c, none⟩ (.slice (some ⟨g, 0, none⟩) (kOf n) cap)).ownsRow w.heap.size 3 1 p (picksTo (vecs L) k).length ((picksTo (vecs L) k).map colV) ∧
    Below w.heap.size w (w1.setCell ⟨w.heap.size, c, none⟩ (.slice (some ⟨g, 0, none⟩) (kOf n) cap)) := by
  have hgw := (hown.lt g rfl).1
  have hSlt : w.heap.size < wr.heap.size := (h.st.own.lt w.heap.size rfl).2
  have hU : uOf ws c = vzero := by unfold uOf; rw [h.st.nil c hc, bitW_nil]
  obtain ⟨g1, g2, g3⟩ := gather_out h.st.stair h.span hx.span hU hcn hl
  have hst := h.st.mono hb
  have hput := hst.put hcn (ownsRow_base hown h.bel.size) hx.len hx.word hl (show g ≠ w.heap.size by omega) (fun d hd g1 c1 e => by
    have := ((h.st.row d hd g1 c1 e).2.2.2.lt g1 rfl).2
    omega)
  refine ⟨hput, h.low.put hx.low, by rw [uOf_put, take_vecs hk]; exact g2, picksTo_out (by rw [vecs_getD]; exact g1), ?_, (h.bel.trans (hb.mono h.bel.size)).setCell (p := ⟨w.heap.size, c, none⟩) (Nat.le_refl _) _⟩
  have hpk := owns_kept h.picks hb
  exact hpk.kept (hst.own.stored c _).2 (own_ne hpk hst.own (by decide))
end

set_option maxRecDepth 1000000 in
set_option maxHeartbeats 4000000 in
theorem gather_any {w : World} (v : Value) (L : List (List Nat)) (n : Nat) (h : MatAt wordV w v L) (hm : MatOk L n) (hT : Tab w) :
    Calls Tryz.prog 58 #[v, .int .i64 (n : Int)] w fun e w' => ∃ pv ad ws, e = .returned (.tuple #[.slice (some ⟨w.heap.size, 0, none⟩) n n, pv]) ∧ StO w' w.heap.size n (kOf n) w.heap.size ad ws ∧ LowW ws n ∧ SpEq (stL (uOf ws) n) (vecs L) ∧
      w'.ownsRow w.heap.size 3 1 pv (picksTo (vecs L) L.length).length ((picksTo (vecs L) L.length).map colV) ∧ Below w.heap.size w w' := by
  obtain ⟨i0, hi0, hz0, hz1, hz2⟩ := info_parts info_row
  obtain ⟨j0, hj0, jz0, jz1, jz2⟩ := info_parts info_int
  have hn := hm.cols
  have hlr := hm.rows
  have HOK := Lib.hid hm
  have HM0 := Lib.hid h
  have HT := Lib.hid hT
  obtain ⟨a, cap, rfl, hcap, hcm, hcell⟩ := h.opens
  have HC := Lib.hid hcell
  have HK64 := Lib.hid (kOf_le hn)
  clear hcell h hm hT
  go_enter Tryz.func58, Tryz.ntmps58
  go_wp2_with (at_make; refine wpList_make_full _ rfl _ _ 102 rfl w.heap.size 62 i0 (.slice none 0 0) 1 Tryz.underlying102 hi0 hz0 hz1 .i64 .i64 _ _ n rfl rfl rfl rfl (by rw [hz2]; omega) (by unfold maxLen; omega) (Nat.le_refl _) ?_; intro w0 hown0 hgrow0; have hb0 := Lib.hid ((Below.refl w.heap.size w).grown hgrow0 (Nat.le_refl _) (fun k hk => by cases hk)); have ho0 := Lib.hid hown0; clear hown0 hgrow0)
  go_loopw [7, 16] (fun p i wr => ∃ (k : Nat) (ad : Nat → Option (Nat × Nat)) (ws : Nat → List Nat), k ≤ L.length ∧ i = .int .i64 k ∧ GaIn w wr n k L p ad ws) (fun _ i _ => L.length - (intOf i).toNat)
  case atStart => exact ⟨0, _, _, Nat.zero_le _, rfl, GaIn.start (by have := ho0.out; rw [Nat.mul_one] at this; exact toList_madeCells_one (.slice none 0 0) n ▸ this) hb0.out⟩
  case round =>
    obtain ⟨k, ad, ws, hk, rfl, hG⟩ := hrel
    have hsz := hG.bel.size
    have HG := Lib.hid hG
    clear hG
    by_cases hlt : k < L.length
    · obtain ⟨b, off, rfl, hcc⟩ := HC.out (by omega)
      obtain ⟨x, hx, hlx⟩ := hcc k hlt
      have hx1 := (HG.out.bel.cell (p := ⟨b, off + k, none⟩) (World.block_lt_of_cell? w _ hx)).trans hx
      have HLX := Lib.hid (hlx.mono HG.out.bel)
      have hmem := getD_mem' hlt
      have HRW := Lib.hid (HOK.out.words _ hmem)
      have HRL := Lib.hid (HOK.out.whole _ hmem)
      clear hcc hx hlx hmem
      go_wp2_with fail
      refine (rest_any w.heap.size n (kOf n) w.heap.size ad ws x (L.getD k []) HG.out.st HG.out.low HLX.out HRW.out HRL.out.1 HRL.out.2 hn rfl (HT.out.mono HG.out.bel)).mono ?_
      rintro e w1 ⟨v1, y, rfl, hv1, hy, hyc, hb1⟩
      have HV1 := Lib.hid hv1
      have HY := Lib.hid hy
      have HYC := Lib.hid hyc
      have HB1 := Lib.hid hb1
      have HYA : Hid (ListAt wordV w1 v1 y) := Lib.hid (ListAt.of_owns hv1)
      have HYL := Lib.hid hy.len
      obtain ⟨ao, co, rfl, hco, hao⟩ := own_open hv1
      have HAO := Lib.hid hao
      clear hv1 hy hyc hb1 hao
      go_wp2_with fail
      refine (First_any _ y HYA.out HY.out.word (by rw [HYL.out]; have := HK64.out; omega) ((HT.out.mono HG.out.bel).mono HB1.out)).mono ?_
      rintro e w2 ⟨rfl, rfl⟩
      rcases firstCol_cases y with ⟨hf, hz⟩ | ⟨c, hf, hl, hc64⟩
      · have HEND := Lib.hid (HG.out.hangs hlt HY.out hz HB1.out)
        rw [hf]
        clear hf hz
        go_wp2
        go_roundw
        case rel => exact ⟨k + 1, ad, ws, by omega, by go_num, HEND.out⟩
        case measure => simp [intOf]; omega
      · have hcn : c < n := by
          apply Nat.lt_of_not_le
          intro hle
          have := HY.out.low c hle
          rw [hl.1] at this
          cases this
        have hK0 : 0 < kOf n := by unfold kOf; omega
        obtain ⟨g, rfl⟩ := HAO.out hK0
        have HE := HG.out.brings hlt HY.out hl (HYC.out c hl) hcn HB1.out HV1.out
        obtain ⟨e1, e2, e3, e4, e5, e6⟩ := HE
        have HE1 := Lib.hid e1
        have HE2 := Lib.hid e2
        have HE3 := Lib.hid e3
        have HE4 := Lib.hid e4
        have HE5 := Lib.hid e5
        have HE6 := Lib.hid e6
        have hsz6 := e6.size
        have hcS : w1.cell? ⟨w.heap.size, c, none⟩ = some (stairV (kOf n) (ad c)) := (HG.out.st.mono HB1.out).cell hcn
        have hfS : w1.frozen? ⟨w.heap.size, c, none⟩ = false := (HG.out.st.mono HB1.out).own.frozenAt c
        have hq := picksTo_le (vecs L) k
        rw [hf]
        clear e1 e2 e3 e4 e5 e6 hf hl hc64
        generalize stairV (kOf n) (ad c) = old at hcS
        generalize hqe : (picksTo (vecs L) k).length = q at *
        have HQ := Lib.hid hqe
        clear hqe
        go_upto_region 10 with fail
        generalize w1.setCell ⟨w.heap.size, c, none⟩ (.slice (some ⟨g, 0, none⟩) (kOf n) co) = w3 at *
        go_wp2_with (at_builtin; refine wpList_append_own _ rfl (.tmp 32) (.tmp 34) 24 rfl w.heap.size 3 j0 (.int .i64 0) 1 8 Tryz.underlying24 hj0 jz0 jz1 jz2 rfl (by decide) u7 q ((picksTo (vecs L) k).map colV) rfl (HE5.out.alloc _) ⟨w3.heap.size, 0, none⟩ 1 1 [.int .i64 (k : Int)] rfl rfl (cell_one_new _ _ _) (fun x hx => by simp at hx; subst hx; rfl) (by unfold maxLen; omega) (by omega) (by simp; omega) ?_; intro v2 w2 hown1 hgrow1 _; have hend : Hid (GaIn w w2 n (k + 1) L v2 (fun d => if d = c then some (g, co) else ad d) (fun d => if d = c then y else ws d)) := Lib.hid ⟨(HE1.out.mono ((Below.refl _ _).alloc (Nat.le_refl _) _)).grown hgrow1 (HE5.out.alloc _) (by decide) (by decide), HE2.out, HE3.out, by rw [HE4.out]; exact own_snoc HQ.out hown1, (HE6.out.alloc hsz6 _).grown hgrow1 (by simp; omega) (fun k hk => (HE5.out.lt k hk).1)⟩; clear hown1 hgrow1)
        go_roundw
        case rel => exact ⟨k + 1, _, _, by omega, by go_num, hend.out⟩
        case measure => simp [intOf]; omega
    · have hk' : k = L.length := by omega
      subst hk'
      have HSP : Hid (SpEq (stL (uOf ws) n) (vecs L)) := Lib.hid (by have := HG.out.span; rwa [← vecs_length, List.take_length] at this)
      go_wp2
      go_ret2
      exact ⟨_, ad, ws, rfl, HG.out.st, HG.out.low, HSP.out, HG.out.picks, HG.out.bel⟩
end Go.Proofs.YticoaioeeppapaaGreatDoor
end

section
/- Loops over slices.Backward: what is the same for every kind of element. -/
namespace Go.Proofs.YticoaioeeppapaaGreatDoor
open Go.RowKit Go.Extern.Stop Go.Stop Go.Extern

/-- The places that have come when k rounds are over. -/
def dnN (N k : Nat) : List Nat := (List.range k).map fun j => N - 1 - j
theorem dnN_succ (N k : Nat) : dnN N (k + 1) = dnN N k ++ [N - 1 - k] := by unfold dnN; rw [List.range_succ, List.map_append]; rfl
theorem dnN_length (N k : Nat) : (dnN N k).length = k := by simp [dnN]

/-- What a round keeps for the iterator: the box of the slice, and the slice's own cells. -/
def KpB (Bs S : Nat) (W W' : World) : Prop := W'.heap[Bs]? = W.heap[Bs]? ∧ W'.heap[S]? = W.heap[S]?
theorem KpB.refl (Bs S : Nat) (W : World) : KpB Bs S W W := ⟨rfl, rfl⟩
theorem KpB.trans {Bs S : Nat} {A B C : World} (h : KpB Bs S A B) (k : KpB Bs S B C) : KpB Bs S A C := ⟨k.1.trans h.1, k.2.trans h.2⟩
theorem KpB.book {Bs S : Nat} {w : World} (h1 : Bs < w.heap.size) (h2 : S < w.heap.size) (W : World) (l : Nat) (o o' : Obj) (hl : w.heap.size ≤ l) (_ : W.heap[l]? = some o) (_ : o.isCells = false) (_ : o.isWalk = false) : KpB Bs S W (W.putObj l o') :=
  ⟨World.putObj_heap_other (by omega), World.putObj_heap_other (by omega)⟩

theorem good_snoc {n : Nat} {pre : List (Fin n)} {x : Fin n} (h : (pre ++ [x]).map (·.1) = dnN n (pre ++ [x]).length) : pre.map (·.1) = dnN n pre.length ∧ x.1 = n - 1 - pre.length := by
  rw [List.map_append, List.length_append] at h
  have e : dnN n (pre.length + [x].length) = dnN n pre.length ++ [n - 1 - pre.length] := dnN_succ n pre.length
  rw [e] at h
  obtain ⟨h1, h2⟩ := List.append_inj' h rfl
  exact ⟨h1, by simpa using h2⟩
end Go.Proofs.YticoaioeeppapaaGreatDoor
end
