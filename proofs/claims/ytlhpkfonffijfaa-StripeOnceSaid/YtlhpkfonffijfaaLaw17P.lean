/- The seventeenth layer's law StripeApart (plain seat). -/
import Derived.Test.YtlhpkfonffijfaaLaw17S
import Derived.Laws.AppendOwnNone
namespace Go.Proofs.Ytlhpkfonffijfaa
open Go.RowKit Go.Extern.Stop Go.Stop Go.Extern

theorem mem_layL (m k s c : Nat) : c ∈ layL m s (k + 1) ↔ c ∈ levL m (k + 1) s ∧ c ∉ levL (m + 1) k s := by
  rw [← layL_filter m k s (p := fun c => decide (c ∉ levL (m + 1) k s)) fun c => by simp, List.mem_filter]
  simp
theorem levL_sub (m k s c : Nat) (h : c ∈ levL (m + 1) k s) : c ∈ levL m (k + 1) s := by
  rw [mem_levL] at h ⊢
  unfold InLev at *
  rw [show m + 1 + k = m + (k + 1) by omega] at h
  refine ⟨h.1, ?_⟩
  have e : ∀ x : Nat, x % 2 ^ (m + 1) % 2 ^ m = x % 2 ^ m := fun x => Nat.mod_mod_of_dvd x ⟨2, Nat.pow_succ 2 m⟩
  rw [← e (revN _ c), h.2, e]
/-- what the layers below carry: how many, and whether a chunk is among them -/
def lenTo : Nat → Nat
  | 0 => 0
  | k + 1 => 2 ^ k
def memTo (G s : Nat) : Nat → Nat → Prop
  | 0, _ => False
  | k + 1, c => c ∈ levL (G - 1 - k) k s
theorem lenTo_succ (k : Nat) : lenTo (k + 1) = lenTo k + rateN k := by
  cases k with
  | zero => rfl
  | succ j => show 2 ^ (j + 1) = 2 ^ j + 2 ^ j; rw [Nat.pow_succ]; omega
theorem lenTo_le {k : Nat} (h : k ≤ 8) : lenTo k ≤ 128 := by
  cases k with
  | zero => decide
  | succ j =>
    have : (2 : Nat) ^ j ≤ 2 ^ 7 := st_pow_le (by omega)
    simpa [lenTo] using this
theorem memTo_new {G s k c : Nat} (hk : k < G) (h : c ∈ layL (G - 1 - k) s k) : ¬ memTo G s k c := by
  cases k with
  | zero => exact fun h => h
  | succ j =>
    have h2 := ((mem_layL _ j s c).1 h).2
    rwa [show G - 1 - (j + 1) + 1 = G - 1 - j by omega] at h2
theorem memTo_succ {G s k c : Nat} (hk : k < G) : memTo G s (k + 1) c ↔ memTo G s k c ∨ c ∈ layL (G - 1 - k) s k := by
  cases k with
  | zero =>
    show c ∈ levL (G - 1 - 0) 0 s ↔ False ∨ c ∈ levL (G - 1 - 0) 0 s
    simp
  | succ j =>
    show c ∈ levL (G - 1 - (j + 1)) (j + 1) s ↔ c ∈ levL (G - 1 - j) j s ∨ c ∈ layL (G - 1 - (j + 1)) s (j + 1)
    rw [mem_layL]
    have e : G - 1 - (j + 1) + 1 = G - 1 - j := by omega
    rw [e]
    constructor
    · intro h
      by_cases h2 : c ∈ levL (G - 1 - j) j s
      · exact .inl h2
      · exact .inr ⟨h, h2⟩
    · rintro (h | h)
      · rw [← e] at h
        exact levL_sub _ j s c h
      · exact h.1

set_option linter.unusedSimpArgs false in
set_option linter.unusedVariables false in
set_option maxRecDepth 1000000 in
set_option maxHeartbeats 8000000 in
theorem apart17 (hR : StRateC) (hC : StChunksC) {w : World} (g : Int) (s : Nat) (ig : I64 g) (hs : s < 4294967296) :
    Calls Try.prog 4 #[.int .i64 g, .int .u32 (s : Int)] w fun e w' => e = .returned (.bool true) ∧ Below w.heap.size w w' := by
  obtain ⟨i0, hi, hz0, hz1, hz2⟩ := info_parts info_int
  obtain ⟨a, ha, ha8⟩ := st_mod g 8 (by decide)
  have ha' : (IntKind.u64.wrap g).tmod 8 = (a : Int) := ha
  obtain ⟨G, hG⟩ : ∃ G, G = 1 + a := ⟨_, rfl⟩
  have e1 : IntKind.i64.wrap (a : Int) = (a : Int) := IntWalk.i64_in _ (by omega)
  have e2b : (1 : Int) + (a : Int) = (G : Int) := by omega
  have gw1 : IntKind.i64.wrap (G : Int) = (G : Int) := IntWalk.i64_in _ (by omega)
  have gb1 : G ≤ 8 := by omega
  have gb2 : 1 ≤ G := by omega
  have gb3 : a ≤ 7 := by omega
  have e3b : (G : Int) - 1 = (a : Int) := by omega
  have HMAY : Hid (∀ k : Nat, k < G → mayB (G : Int) (k : Int) = true) := Lib.hid fun k hk => decide_eq_true (by omega)
  have HCC : Hid (∀ (k : Nat), k < G → ∀ V : World, Calls Try.prog 9 #[.int .i64 (G : Int), .int .i64 (k : Int), .int .u32 (s : Int)] V fun e w' => ∃ v', e = .returned (.tuple #[v', .nilIface]) ∧ w'.ownsRow V.heap.size 3 1 v' (rateN k) ((layL (G - 1 - k) s k).map cutV) ∧ Below V.heap.size V w') := Lib.hid fun k hk V => by
    refine (hC V (G : Int) (k : Int) s ⟨by omega, by omega⟩ ⟨by omega, by omega⟩ hs).mono ?_
    have k1 : ((G : Int) - 1 - (k : Int)).toNat = G - 1 - k := by omega
    rw [k1, Int.toNat_natCast, layL_length]
    rintro e w' ⟨hb', ⟨h, -⟩ | ⟨-, v', rfl, ho⟩⟩
    · rw [HMAY.out k hk] at h
      cases h
    · exact ⟨v', rfl, ho, hb'⟩
  have HRT : Hid (∀ (k : Nat), k < G → ∀ V : World, Calls Try.prog 10 #[.int .i64 (G : Int), .int .i64 (k : Int)] V fun e w' => e = .returned (.int .i64 ((rateN k : Nat) : Int)) ∧ Below V.heap.size V w') := Lib.hid fun k hk V => by
    have := hR V (G : Int) (k : Int) ⟨by omega, by omega⟩ ⟨by omega, by omega⟩
    rwa [HMAY.out k hk, if_pos rfl, Int.toNat_natCast] at this
  have HAW : Hid (∀ V : World, Calls Try.prog 8 #[] V fun e w' => e = .returned (.bool true) ∧ Below V.heap.size V w') := Lib.hid fun V => awake17 hR hC
  have HPW : Hid (∀ V : World, Calls Try.prog 6 #[.int .i64 (a : Int)] V fun e w' => e = .returned (.int .i64 ((lenTo G : Nat) : Int)) ∧ V = w') := Lib.hid fun V => by
    have := stPower_any (w := V) a (by omega)
    rw [hG, Nat.add_comm 1 a]
    exact this
  have HLS := Lib.hid lenTo_succ
  have HLL : Hid (∀ k, k ≤ G → lenTo k ≤ 128) := Lib.hid fun k hk => lenTo_le (by omega)
  have HMN : Hid (∀ k c, k < G → c ∈ layL (G - 1 - k) s k → ¬ memTo G s k c) := Lib.hid fun k c hk h => memTo_new hk h
  have HMS : Hid (∀ k c, k < G → (memTo G s (k + 1) c ↔ memTo G s k c ∨ c ∈ layL (G - 1 - k) s k)) := Lib.hid fun k c hk => memTo_succ hk
  have HLN : Hid (∀ k, (layL (G - 1 - k) s k).length = rateN k) := Lib.hid fun k => layL_length _ s k
  have HRL : Hid (∀ k, k < G → rateN k ≤ 64) := Lib.hid fun k hk => rateN_le (by omega)
  have HOS := Lib.hid (World.ownsRow_made (base := w.heap.size) (e := 3) (size := 1) w #[] 0 (Nat.le_refl _) (by decide) rfl)
  have HB0 := Lib.hid ((Below.refl w.heap.size w).alloc (Nat.le_refl _) (.cells #[] 3))
  clear hR hC hG ha ha8 hs
  go_enter Try.func4, Try.ntmps4
  go_wp2_with fail
  go_loopw [5, 6] (fun v i wr => ∃ k : Nat, k ≤ G ∧ i = .int .i64 (k : Int) ∧ (∃ L : List Nat, L.length = lenTo k ∧ (∀ c, c ∈ L ↔ memTo G s k c) ∧ wr.ownsRow w.heap.size 3 1 v (lenTo k) (L.map cutV)) ∧ Below w.heap.size w wr) (fun _ i _ => G - (intOf i).toNat)
  case atStart => exact ⟨0, Nat.zero_le _, rfl, ⟨[], rfl, fun c => ⟨fun h => (by cases h), fun h => h.elim⟩, HOS.out⟩, HB0.out⟩
  case round =>
    obtain ⟨k, hk, rfl, ⟨L, hLl, hLm, hown⟩, hbel⟩ := hrel
    have HB := Lib.hid hbel
    have HOW := Lib.hid hown
    have HLL2 := Lib.hid hLl
    have HLM := Lib.hid hLm
    clear hLl hLm
    by_cases hlt : k < G
    · have d1 : decide ((k : Int) < (G : Int)) = true := decide_eq_true (by omega)
      have HC1 := Lib.hid (HCC.out k hlt)
      have HR1 := Lib.hid (HRT.out k hlt)
      have HN1 : Hid (∀ c, c ∈ layL (G - 1 - k) s k → c ∉ L) := Lib.hid fun c hc h => HMN.out k c hlt hc ((HLM.out c).1 h)
      have HM1 : Hid (∀ c, c ∈ L ++ layL (G - 1 - k) s k ↔ memTo G s (k + 1) c) := Lib.hid fun c => by rw [List.mem_append, HMS.out k c hlt, HLM.out c]
      have HLS1 := Lib.hid (HLS.out k)
      have hq1 := HLL.out k hk
      have hrl := HRL.out k hlt
      have HLN1 := Lib.hid (HLN.out k)
      clear hbel hown HCC HRT HMN HMS HLM HLN
      generalize hF : layL (G - 1 - k) s k = F at *
      generalize hr : rateN k = r at *
      generalize hq : lenTo k = q at *
      have d2 : ((r : Int) != (r : Int)) = false := by simp
      clear hF hr hq
      go_wp2_with fail
      with_reducible refine (HC1.out _).mono ?_
      rintro e w2 ⟨v2, rfl, ho2, hb2⟩
      have HB2 := Lib.hid (HB.out.trans (hb2.mono HB.out.size))
      have HO2 := Lib.hid ho2
      have HOW2 := Lib.hid (owns_kept HOW.out hb2)
      obtain ⟨a2, c2, hv2, -, hg2⟩ := own_open ho2
      subst hv2
      have HG2 := Lib.hid hg2
      clear hb2 ho2 hg2
      go_wp2_with fail
      with_reducible refine (HR1.out _).mono ?_
      rintro e w3 ⟨rfl, hb3⟩
      have HB3 := Lib.hid (HB2.out.trans (hb3.mono HB2.out.size))
      have HO3 := Lib.hid (owns_kept HO2.out hb3)
      have HOW3 := Lib.hid (owns_kept HOW2.out hb3)
      have HLI : Hid (ListAt intV w3 u5 (L.map fun c : Nat => (c : Int))) := Lib.hid (cut_ints (ListAt.of_owns (f := cutV) (l := L) HOW3.out))
      clear hb3
      go_wp2_with fail
      go_loopw [9] (fun i wr' => ∃ j : Nat, j ≤ r ∧ i = .int .i64 (j : Int) ∧ wr' = w3) (fun i _ => r - (intOf i).toNat)
      case atStart => exact ⟨0, Nat.zero_le _, rfl, rfl⟩
      case round =>
        obtain ⟨j, hj, rfl, rfl⟩ := hrel
        by_cases hjl : j < r
        · have d3 : decide ((j : Int) < (r : Int)) = true := decide_eq_true (by omega)
          obtain ⟨g2, rfl⟩ := HG2.out (by omega)
          have hjF : j < F.length := by rw [HLN1.out]; exact hjl
          have hx : wr.cell? ⟨g2, j, none⟩ = some (.int .i64 ((F.getD j 0 : Nat) : Int)) := by
            rw [HO3.out.cellAt j (by omega)]
            simp [cutV, List.getD_eq_getElem?_getD, hjF]
          have HIN := Lib.hid (In_any (w := wr) u5 _ ((F.getD j 0 : Nat) : Int) HLI.out)
          rw [cut_mem, decide_eq_false (HN1.out _ (by rw [List.getD_eq_getElem?_getD, List.getElem?_eq_getElem hjF]; exact List.getElem_mem hjF))] at HIN
          clear hjF
          generalize F.getD j 0 = x at *
          go_wp2_with fail
          refine HIN.out.mono ?_
          rintro e w5 ⟨rfl, rfl⟩
          go_wp2_with fail
          go_roundw
          case rel => exact ⟨j + 1, by omega, by go_num, trivial⟩
          case measure => simp [intOf]; omega
        · obtain rfl : j = r := by omega
          have d3 : decide ((j : Int) < (j : Int)) = false := decide_eq_false (by omega)
          have HLF : Hid (ListAt cutV wr (.slice a2 F.length c2) F) := Lib.hid (by rw [HLN1.out]; exact ListAt.of_owns (f := cutV) (l := F) HO3.out)
          have HSZ := Lib.hid HB3.out.size
          go_wp2_with (at_builtin; refine wpList_append_of _ rfl (.tmp 50) (.tmp 51) 25 rfl w.heap.size 3 i0 (.int .i64 0) 8 Try.underlying25 hi hz0 hz1 hz2 rfl u5 q (L.map cutV) rfl HOW3.out (.slice a2 j c2) F (by rfl) (by have := HLF.out; rw [HLN1.out] at this; exact this) (fun y _ => rfl) (by rw [HLN1.out]; unfold maxLen; omega) (by rw [HLN1.out]; omega) HSZ.out ?_; intro v5 w5 hown1 hgrow1; have HB5 := Lib.hid (HB3.out.grown hgrow1 HSZ.out (fun k hk => (HOW3.out.lt k hk).1)); have HO5 := Lib.hid hown1; clear hown1 hgrow1)
          have HO6 : Hid (w5.ownsRow w.heap.size 3 1 v5 (lenTo (k + 1)) ((L ++ F).map cutV)) := Lib.hid (by
            rw [HLS1.out, List.map_append]
            have := HO5.out
            rwa [HLN1.out] at this)
          have HLZ : Hid ((L ++ F).length = lenTo (k + 1)) := Lib.hid (by rw [List.length_append, HLL2.out, HLN1.out, HLS1.out])
          go_wp2_with fail
          go_roundw
          case rel => exact ⟨k + 1, by omega, by go_num, ⟨_, HLZ.out, HM1.out, HO6.out⟩, HB5.out⟩
          case measure => simp [intOf]; omega
    · obtain rfl : k = G := by omega
      have d1 : decide ((k : Int) < (k : Int)) = false := decide_eq_false (by omega)
      have hq1 := HLL.out k hk
      obtain ⟨a2, c2, hv2, -, -⟩ := own_open HOW.out
      subst hv2
      clear hown hbel
      generalize lenTo k = q at *
      have d2 : ((q : Int) == (q : Int)) = true := by simp
      go_wp2_with fail
      refine (HPW.out _).mono ?_
      rintro e w2 ⟨rfl, rfl⟩
      go_wp2_with fail
      refine (HAW.out _).mono ?_
      rintro e w4 ⟨rfl, hb4⟩
      have HB4 := Lib.hid (HB.out.trans (hb4.mono HB.out.size))
      clear hb4
      go_wp2
      go_ret
      exact ⟨rfl, HB4.out⟩
end Go.Proofs.Ytlhpkfonffijfaa
