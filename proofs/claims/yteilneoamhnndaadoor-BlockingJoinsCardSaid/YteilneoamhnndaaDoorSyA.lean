/- Package symbol: wrong, added. -/

import Derived.Test.YteilneoamhnndaaDoorSyMath

import Derived.Test.YteilneoamhnndaaDoorSyErr

import Derived.Test.YteilneoamhnndaaDoorJ2
import Derived.Test.YteilneoamhnndaaDoorOwn

import Derived.WalkSpells

import Derived.WalkLawsBesides

import Derived.Laws.CopyOwn

namespace Go.Proofs.YteilneoamhnndaaDoor

open Go.RowKit Go.Extern.Stop Go.Stop Go.Extern

theorem ListAt.bytes {w : World} {v : Value} {l : List Nat} (h : ListAt byteV w v l) (n : Nat) (hn : l.length = n) :
    ∃ a cap, v = .slice a n cap ∧ n ≤ cap ∧ cap ≤ maxLen ∧ (0 < n → ∃ b off, a = some ⟨b, off, none⟩ ∧ ∀ j, j < n → w.cell? ⟨b, off + j, none⟩ = some (.int .u8 ((l.getD j 0 : Nat) : Int))) := by
  subst hn
  obtain ⟨a, cap, rfl, hc, hm, h⟩ := h
  refine ⟨a, cap, rfl, hc, hm, fun hp => ?_⟩
  obtain ⟨b, off, rfl, hcell⟩ := h hp
  refine ⟨b, off, rfl, fun j hj => ?_⟩
  rw [hcell j hj, List.getD_eq_getElem?_getD, List.getElem?_eq_getElem hj]
  rfl

theorem take_succ_row {L : List (List Nat)} {k : Nat} (h : k < L.length) : L.take (k + 1) = L.take k ++ [L.getD k []] := by
  rw [List.take_add_one, List.getD_eq_getElem?_getD, List.getElem?_eq_getElem h]; rfl

set_option maxRecDepth 1000000 in
theorem wrong_any {w : World} (v : Value) (L : List (List Nat)) (n : Int) (h : MatAt byteV w v L) (hn : I64 n) :
    Calls Tryd.prog 43 #[v, .int .i64 n] w fun e w' => e = .returned (.int .i64 (checkS L n)) ∧ w = w' := by
  have hlen := h.len
  obtain ⟨a, cap, rfl, hcap, hcm, hcell⟩ := h.opens
  clear h
  obtain ⟨hn0, hn1⟩ := hn
  by_cases h0 : n < 1
  · have HR : Hid (checkS L n = 1) := Lib.hid (by unfold checkS; rw [if_pos (.inl h0)])
    clear hcell
    go_enter Tryd.func43, Tryd.ntmps43
    go_wp2
    go_ret
    exact ⟨by rw [HR.out]; rfl, rfl⟩
  · have h0' : 1 ≤ n := by omega
    by_cases h1 : 64 < n
    · have HR : Hid (checkS L n = 1) := Lib.hid (by unfold checkS; rw [if_pos (.inr h1)])
      clear hcell h0
      go_enter Tryd.func43, Tryd.ntmps43
      go_wp2
      go_ret
      exact ⟨by rw [HR.out]; rfl, rfl⟩
    · have h1' : n ≤ 64 := by omega
      have HR : Hid (∀ b, L.all (fun r => decide ((r.length : Int) = n)) = b → checkS L n = if b then 0 else 2) := Lib.hid fun b e => by
        unfold checkS; rw [if_neg (by omega), e]
      have HC := Lib.hid hcell
      clear hcell h0 h1
      go_enter Tryd.func43, Tryd.ntmps43
      go_wp2
      go_loopw [15] (fun i wr => ∃ k : Nat, k ≤ L.length ∧ i = .int .i64 k ∧ (∀ j, j < k → ((L.getD j []).length : Int) = n) ∧ w = wr) (fun i _ => L.length - (intOf i).toNat)
      case atStart => exact ⟨0, Nat.zero_le _, rfl, fun j hj => by omega, rfl⟩
      case round =>
        obtain ⟨k, hk, rfl, hz, rfl⟩ := hrel
        by_cases hlt : k < L.length
        · obtain ⟨b, off, rfl, hcc⟩ := HC.out (by omega)
          obtain ⟨x, hx, hlx⟩ := hcc k hlt
          have hx' : w.cell? ⟨b, off + k, none⟩ = some x := hx
          have HF : Hid (((L.getD k []).length : Int) ≠ n → L.all (fun r => decide ((r.length : Int) = n)) = false) := Lib.hid fun h => by
            rw [List.all_eq_false]; exact ⟨_, getD_mem_row hlt, by simpa using h⟩
          have HT : Hid (((L.getD k []).length : Int) = n → ∀ j, j < k + 1 → ((L.getD j []).length : Int) = n) := Lib.hid fun h j hj => by
            by_cases e : j = k
            · rw [e]; exact h
            · exact hz j (by omega)
          have hrl := hlx.len
          obtain ⟨ra, rc, rfl, -, -, -⟩ := hlx
          clear hcc hx hz
          generalize (L.getD k []).length = m at *
          by_cases he : (m : Int) = n
          · have hb2 : ((m : Int) != n) = false := by simpa using he
            have hb1 : ((m : Int) == n) = true := by simpa using he
            have HT' := Lib.hid (HT.out he)
            clear HF HT he
            go_wp2
            go_roundw
            case rel => exact ⟨k + 1, by omega, by go_num, HT'.out, trivial⟩
            case measure => simp [intOf]; omega
          · have hb2 : ((m : Int) != n) = true := by simpa using he
            have hb1 : ((m : Int) == n) = false := by simpa using he
            have HF' := Lib.hid (HF.out he)
            clear HF HT he
            go_wp2
            go_ret
            exact ⟨by rw [HR.out _ HF'.out]; rfl, rfl⟩
        · have hk' : k = L.length := by omega
          have HA : Hid (L.all (fun r => decide ((r.length : Int) = n)) = true) := Lib.hid (by
            rw [List.all_eq_true]
            intro r hr
            obtain ⟨j, hj, rfl⟩ := List.getElem_of_mem hr
            have := hz j (by omega)
            simp only [List.getD_eq_getElem?_getD, List.getElem?_eq_getElem hj, Option.getD_some] at this
            exact decide_eq_true this)
          clear hz
          go_wp2
          go_ret
          exact ⟨by rw [HR.out _ HA.out]; rfl, rfl⟩

end Go.Proofs.YteilneoamhnndaaDoor
