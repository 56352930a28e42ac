import Derived.Test.YtmihpbdgilmdiaaWrBox
import Derived.Laws.StructEq
import Derived.Test.YtmihpbdgilmdiaaJ1
import Derived.Test.YtmihpbdgilmdiaaWrStore
import Derived.Test.YtmihpbdgilmdiaaJ10
import Derived.Deep.Cut

section
/- Two plans compared as structs. -/
namespace Go.Proofs.Ytmihpbdgilmdiaa
open Go.RowKit Go.Extern.Stop Go.Stop Go.Extern

theorem plan_eql (w : World) (a b c d e a' b' c' d' e' : Int) : (binOp .eql 24 (.agg #[.int .i64 a, .int .i64 b, .int .i64 c, .int .i64 d, .int .i64 e]) (.agg #[.int .i64 a', .int .i64 b', .int .i64 c', .int .i64 d', .int .i64 e'])).run Try.prog w = .ok (.bool (decide (a = a' ∧ b = b' ∧ c = c' ∧ d = d' ∧ e = e'))) w := by
  have ui := Try.underlying3
  have a3 := Try.isAgg3
  have z3 := Try.sizeOf3
  have hS : Try.prog.underlying 24 = some (.struct (Try.prog.fieldsOf 24)) := by kernel_rfl
  have hp : Try.prog.stoodInHeld 24 = false := by kernel_rfl
  rw [run_eql_struct, show (10000 : Nat) = 9999 + 1 from rfl, run_equalIn_agg w 9999 24 _ _ hS hp]
  simp only [Program.fieldsOf, Try.underlying24]
  go_simp
  by_cases h1 : a = a' <;> by_cases h2 : b = b' <;> by_cases h3 : c = c' <;> by_cases h4 : d = d' <;> by_cases h5 : e = e' <;> simp [h1, h2, h3, h4, h5]
theorem plan_guard (x y : Operand) (w : World) (a b : Array Value) : (eqGuard .eql 24 x y (.agg a) (.agg b)).run Try.prog w = .ok () w := run_eqGuard_agg w .eql 24 x y a b (by kernel_rfl)
end Go.Proofs.Ytmihpbdgilmdiaa
end

section
/- The document's ranged (layer 16). -/
namespace Go.Proofs.Ytmihpbdgilmdiaa
open Go.RowKit Go.Extern.Stop Go.Stop Go.Extern

theorem fit_head (p : Pkt) : FitL (headN p) ↔ (1 ≤ p.kind ∧ p.kind ≤ 2) ∧ (0 ≤ p.session ∧ p.session ≤ 65535) ∧ (0 ≤ p.layer ∧ p.layer ≤ 7) ∧ (0 ≤ p.tick ∧ p.tick ≤ 1099511627775) := by
  simp [FitL, headN, FitN]
theorem fit_data (p : Pkt) (h : I64 p.many) : FitL (dataN p) ↔ (0 ≤ p.sync + 1 ∧ p.sync + 1 ≤ 8) ∧ (1 ≤ p.many ∧ p.many ≤ 4096) ∧ (0 ≤ p.place ∧ p.place ≤ p.many - 1) ∧ (0 ≤ p.block ∧ p.block ≤ 15) ∧ (0 ≤ p.esi ∧ p.esi ≤ 65535) := by
  by_cases hm : 1 ≤ p.many
  · have e := IntWalk.i64_in (p.many - 1) (by have := h.2; omega)
    simp [FitL, dataN, FitN, e]
  · constructor
    · intro hf
      have : FitN (p.many, 2, 1, 4096) := hf _ (by simp [dataN])
      exact absurd this.1 hm
    · rintro ⟨-, ⟨h1, -⟩, -⟩
      exact absurd h1 hm
theorem fit_ann (p : Pkt) (h : -9223372036854775808 ≤ p.size) : FitL (annN p) ↔ p.size ≤ 4294967295 ∧ (1 ≤ p.layers ∧ p.layers ≤ 8) ∧ (1 ≤ p.esis ∧ p.esis ≤ 65536) ∧ (2 ≤ p.base ∧ p.base ≤ 4096) ∧ (1 ≤ p.length ∧ p.length ≤ p.base - 1) := by
  simp [FitL, annN, FitN, h]

theorem ranged_iff (p : Pkt) (hF : FitsP p) : RangedP p ↔ FitL (headN p) ∧ ((p.kind = 1 ∧ -1 ≤ p.sync ∧ p.sync ≤ 7 ∧ FitL (dataN p)) ∨ (¬ p.kind = 1 ∧ p.layer = 0 ∧ 2 ≤ p.base ∧ FitL (annN p))) := by
  rw [fit_head, fit_data p hF.many, fit_ann p hF.size.1]
  constructor
  · intro h
    refine ⟨⟨⟨h.k1, h.k2⟩, ⟨h.s1, h.s2⟩, ⟨h.l1, h.l2⟩, ⟨h.t1, h.t2⟩⟩, ?_⟩
    by_cases hk : p.kind = 1
    · obtain ⟨h1, h2, h3, h4, h5⟩ := h.d hk
      exact .inl ⟨hk, h1.1, h1.2, ⟨by omega, by omega⟩, h2, h3, h4, h5⟩
    · obtain ⟨h1, h2, h3, h4, h5, h6⟩ := h.a (by have := h.k1; have := h.k2; omega)
      exact .inr ⟨hk, h1, h5.1, h2, h3, h4, h5, h6⟩
  · rintro ⟨⟨⟨h1, h2⟩, ⟨h3, h4⟩, ⟨h5, h6⟩, ⟨h7, h8⟩⟩, h⟩
    refine ⟨h1, h2, h3, h4, h5, h6, h7, h8, fun hk => ?_, fun hk => ?_⟩
    · rcases h with ⟨-, g1, g2, -, g3, g4, g5, g6⟩ | ⟨g, -⟩
      · exact ⟨⟨g1, g2⟩, g3, g4, g5, g6⟩
      · exact absurd hk g
    · rcases h with ⟨g, -⟩ | ⟨-, g1, -, g2, g3, g4, g5, g6⟩
      · omega
      · exact ⟨g1, g2, g3, g4, g5, g6⟩

end Go.Proofs.Ytmihpbdgilmdiaa
end

section
/- The document's Same of packets (layer 16). (Made by gensame.py.) -/
namespace Go.Proofs.Ytmihpbdgilmdiaa
open Go.RowKit Go.Extern.Stop Go.Stop Go.Extern

theorem pkt_same (p q : Pkt) (B : Bool) (h : B = true ↔ (p.kind = q.kind ∧ p.session = q.session ∧ p.layer = q.layer ∧ p.tick = q.tick ∧ p.burst = q.burst ∧ p.sync = q.sync) ∧ (p.many = q.many ∧ p.place = q.place ∧ p.block = q.block ∧ p.esi = q.esi ∧ p.data = q.data) ∧ (p.size = q.size ∧ p.symbol = q.symbol ∧ p.blocks = q.blocks ∧ p.long = q.long ∧ p.short = q.short) ∧ p.layers = q.layers ∧ p.esis = q.esis ∧ p.base = q.base ∧ p.length = q.length) : B = decide (p = q) := by
  by_cases e : p = q
  · subst e
    rw [h.2 (by simp)]; simp
  · rw [decide_eq_false e]
    cases B with
    | false => rfl
    | true =>
      exfalso
      obtain ⟨⟨h1, h2, h3, h4, h5, h6⟩, ⟨h7, h8, h9, h10, h11⟩, ⟨h12, h13, h14, h15, h16⟩, h17, h18, h19, h20⟩ := h.1 rfl
      exact e (Pkt.ext h1 h2 h3 h4 h5 h6 h7 h8 h9 h10 h11 h12 h13 h14 h15 h16 h17 h18 h19 h20)

set_option linter.unusedSimpArgs false in
set_option linter.unusedVariables false in
set_option maxRecDepth 1000000 in
set_option maxHeartbeats 8000000 in
theorem rSame_any {w : World} (p q : Pkt) (D E : Value) (hD : ListAt byteV w D p.data) (hE : ListAt byteV w E q.data) (ho : Octets p.data) (ho' : Octets q.data) :
    Calls Try.prog 7 #[pktV p D, pktV q E] w fun e w' => e = .returned (.bool (decide (p = q))) ∧ Below w.heap.size w w' := by
  obtain ⟨W1, hW1, hb1, hx1⟩ := pkt_laid w p D
  obtain ⟨W2, hW2, hb2, hx2⟩ := pkt_laid W1 q E
  have hsz : W1.heap.size = w.heap.size + 1 := by rw [hW1]; exact World.size_alloc ..
  have HB2 := Lib.hid (hb1.trans (hb2.mono hb1.size))
  have hs := strN_same ho ho'
  have hcD := (hD.mono HB2.out).str
  have hcE := (hE.mono HB2.out).str
  have hq1 := (hx1.mono hb2).cells
  have hq2 := hx2.cells
  rw [hsz] at hq2
  have HW : Hid ((w.alloc (.cells (pktC p D) 26)).alloc (.cells (pktC q E) 26) = W2) := Lib.hid (by rw [← hW1, ← hW2])
  have HR := Lib.hid (pkt_same p q)
  have hpe := fun w : World => plan_eql w p.size p.symbol p.blocks p.long p.short q.size q.symbol q.blocks q.long q.short
  have hpg := plan_guard
  clear hW1 hW2 hb1 hb2 hx1 hx2 hsz hD hE ho ho'
  obtain ⟨a0, a1, a2, a3, a4, a5, a6, a7, a8, a9, a10, a11, a12, a13, a14, a15, a16, a17, a18, a19⟩ := hq1
  obtain ⟨b0, b1, b2, b3, b4, b5, b6, b7, b8, b9, b10, b11, b12, b13, b14, b15, b16, b17, b18, b19⟩ := hq2
  unfold pktC at HW
  unfold pktV pktC
  generalize strN p.data = sp at *
  generalize strN q.data = sq at *
  obtain ⟨x0, hx0⟩ : ∃ B : Bool, (p.kind == q.kind) = B := ⟨_, rfl⟩
  obtain ⟨x1, hx1⟩ : ∃ B : Bool, (p.session == q.session) = B := ⟨_, rfl⟩
  obtain ⟨x2, hx2⟩ : ∃ B : Bool, (p.layer == q.layer) = B := ⟨_, rfl⟩
  obtain ⟨x3, hx3⟩ : ∃ B : Bool, (p.tick == q.tick) = B := ⟨_, rfl⟩
  obtain ⟨x4, hx4⟩ : ∃ B : Bool, (p.burst == q.burst) = B := ⟨_, rfl⟩
  obtain ⟨x5, hx5⟩ : ∃ B : Bool, (p.sync == q.sync) = B := ⟨_, rfl⟩
  obtain ⟨x6, hx6⟩ : ∃ B : Bool, (p.many == q.many) = B := ⟨_, rfl⟩
  obtain ⟨x7, hx7⟩ : ∃ B : Bool, (p.place == q.place) = B := ⟨_, rfl⟩
  obtain ⟨x8, hx8⟩ : ∃ B : Bool, (p.block == q.block) = B := ⟨_, rfl⟩
  obtain ⟨x9, hx9⟩ : ∃ B : Bool, (p.esi == q.esi) = B := ⟨_, rfl⟩
  obtain ⟨x10, hx10⟩ : ∃ B : Bool, decide (p.data = q.data) = B := ⟨_, rfl⟩
  obtain ⟨x11, hx11⟩ : ∃ B : Bool, decide (p.size = q.size ∧ p.symbol = q.symbol ∧ p.blocks = q.blocks ∧ p.long = q.long ∧ p.short = q.short) = B := ⟨_, rfl⟩
  obtain ⟨x12, hx12⟩ : ∃ B : Bool, (p.layers == q.layers) = B := ⟨_, rfl⟩
  obtain ⟨x13, hx13⟩ : ∃ B : Bool, (p.esis == q.esis) = B := ⟨_, rfl⟩
  obtain ⟨x14, hx14⟩ : ∃ B : Bool, (p.base == q.base) = B := ⟨_, rfl⟩
  obtain ⟨x15, hx15⟩ : ∃ B : Bool, (p.length == q.length) = B := ⟨_, rfl⟩
  rw [hx10] at hs
  have HX : Hid (((x0 && x1 && x2 && x3 && x4 && x5) && (x6 && x7 && x8 && x9 && x10) && (x11 && x12 && x13 && x14 && x15)) = decide (p = q)) := Lib.hid (HR.out _ (by
    simp only [← hx0, ← hx1, ← hx2, ← hx3, ← hx4, ← hx5, ← hx6, ← hx7, ← hx8, ← hx9, ← hx10, ← hx11, ← hx12, ← hx13, ← hx14, ← hx15, Bool.and_eq_true, beq_iff_eq, decide_eq_true_eq, and_assoc]))
  rw [hx11] at hpe
  clear hx10 hx11 HR
  go_enter Try.func7, Try.ntmps7
  go_upto_region 1 with fail
  rw [HW.out]
  go_cut [5] from 7 (fun x wx => x = .bool (x0 && x1 && x2 && x3 && x4 && x5) ∧ wx = W2)
  case first =>
    cases x0 with
    | false =>
      go_wp2
      go_meet
      exact ⟨by simp, rfl⟩
    | true =>
      cases x1 with
      | false =>
        go_wp2
        go_meet
        exact ⟨by simp, rfl⟩
      | true =>
        cases x2 with
        | false =>
          go_wp2
          go_meet
          exact ⟨by simp, rfl⟩
        | true =>
          cases x3 with
          | false =>
            go_wp2
            go_meet
            exact ⟨by simp, rfl⟩
          | true =>
            cases x4 with
            | false =>
              go_wp2
              go_meet
              exact ⟨by simp, rfl⟩
            | true =>
              cases x5 with
              | false =>
                go_wp2
                go_meet
                exact ⟨by simp, rfl⟩
              | true =>
                go_wp2
                go_meet
                exact ⟨rfl, rfl⟩
  case rest =>
    obtain ⟨rfl, rfl⟩ := hcut
    go_upto_region 2 with fail
    go_cut [6] from 7 (fun x wy => x = .bool (x6 && x7 && x8 && x9 && x10) ∧ wy = wc)
    case first =>
      cases x6 with
      | false =>
        go_wp2
        go_meet
        exact ⟨by simp, rfl⟩
      | true =>
        cases x7 with
        | false =>
          go_wp2
          go_meet
          exact ⟨by simp, rfl⟩
        | true =>
          cases x8 with
          | false =>
            go_wp2
            go_meet
            exact ⟨by simp, rfl⟩
          | true =>
            cases x9 with
            | false =>
              go_wp2
              go_meet
              exact ⟨by simp, rfl⟩
            | true =>
              cases x10 with
              | false =>
                go_wp2
                go_meet
                exact ⟨by simp, rfl⟩
              | true =>
                go_wp2
                go_meet
                exact ⟨rfl, rfl⟩
    case rest =>
      obtain ⟨rfl, rfl⟩ := hcut
      generalize (x0 && x1 && x2 && x3 && x4 && x5) = H at *
      generalize (x6 && x7 && x8 && x9 && x10) = M at *
      cases H with
      | false =>
        go_wp2
        go_ret
        exact ⟨by rw [← HX.out]; simp, HB2.out⟩
      | true =>
        cases M with
        | false =>
          go_wp2
          go_ret
          exact ⟨by rw [← HX.out]; simp, HB2.out⟩
        | true =>
          cases x11 with
          | false =>
            go_wp2
            go_ret
            exact ⟨by rw [← HX.out]; simp, HB2.out⟩
          | true =>
            cases x12 with
            | false =>
              go_wp2
              go_ret
              exact ⟨by rw [← HX.out]; simp, HB2.out⟩
            | true =>
              cases x13 with
              | false =>
                go_wp2
                go_ret
                exact ⟨by rw [← HX.out]; simp, HB2.out⟩
              | true =>
                cases x14 with
                | false =>
                  go_wp2
                  go_ret
                  exact ⟨by rw [← HX.out]; simp, HB2.out⟩
                | true =>
                  cases x15 with
                  | false =>
                    go_wp2
                    go_ret
                    exact ⟨by rw [← HX.out]; simp, HB2.out⟩
                  | true =>
                    go_wp2
                    go_ret
                    exact ⟨by rw [← HX.out]; simp, HB2.out⟩
end Go.Proofs.Ytmihpbdgilmdiaa
end
