/- The walk of the fourth layer's law SymbolGoes. -/
import Derived.Test.YtibgddfnkfhlfaaLaw04
import Derived.Test.YtibgddfnkfhlfaaSyRef
import Derived.Test.YtibgddfnkfhlfaaStepAppend
namespace Go.Proofs.Ytibgddfnkfhlfaa
open Go.RowKit Go.Extern.Stop Go.Stop Go.Extern

theorem Octets.append {a b : List Nat} (ha : Octets a) (hb : Octets b) : Octets (a ++ b) := fun x hx => (List.mem_append.1 hx).elim (ha x) (hb x)
theorem Octets.take {a : List Nat} (ha : Octets a) (k : Nat) : Octets (a.take k) := fun x hx => ha x (List.mem_of_mem_take hx)

theorem ListAt.takeN {α : Type} {f : α → Value} {w : World} {a : Option Addr} {n cap : Nat} {l : List α} (h : ListAt f w (.slice a n cap) l) (k : Nat) (hk : k ≤ n) : ListAt f w (.slice a k cap) (l.take k) := by
  have hn : n = l.length := by
    obtain ⟨a', cap', e, -⟩ := h
    cases e
    rfl
  subst hn
  exact h.take k hk

set_option maxRecDepth 1000000 in
set_option maxHeartbeats 4000000 in
theorem cutBytes_any {w : World} (v : Value) (L : List (List Nat)) (h : MatAt byteV w v L) (hw : ∀ r ∈ L, Octets r) :
    Calls Try.prog 10 #[v] w fun e w' => ∃ v', ∃ C : List Nat, e = .returned v' ∧ ListAt byteV w' v' C ∧ Octets C ∧ C.length ≤ 400 ∧ Below w.heap.size w w' := by
  obtain ⟨i0, hi0, hz0, hz1, hz2⟩ := info_parts info_u8
  have hlen := h.len
  have HW := Lib.hid hw
  obtain ⟨a, cap, rfl, hcap, -, hcell⟩ := h.opens
  have HC := Lib.hid hcell
  clear h hw hcell
  go_enter Try.func10, Try.ntmps10
  go_wp2
  go_loopw [3, 4] (fun o i wr => ∃ k : Nat, k ≤ L.length ∧ i = .int .i64 k ∧ (∃ C : List Nat, Octets C ∧ C.length ≤ 400 ∧ wr.ownsRow w.heap.size 5 1 o C.length (C.map byteV)) ∧ Below w.heap.size w wr) (fun _ i _ => L.length - (intOf i).toNat)
  case atStart => exact ⟨0, Nat.zero_le _, rfl, ⟨[], by intro x hx; simp at hx, by decide, World.ownsRow_made (base := w.heap.size) (e := 5) (size := 1) w #[] 0 (Nat.le_refl _) (by decide) rfl⟩, (Below.refl _ _).alloc (Nat.le_refl _) _⟩
  case round =>
    obtain ⟨k, hk, rfl, ⟨C, hCo, hCl, hown⟩, hbel⟩ := hrel
    have HCO := Lib.hid hCo
    have HB := Lib.hid hbel
    have hsz := hbel.size
    by_cases hlt : k < L.length
    · obtain ⟨b, off, rfl, hcc⟩ := HC.out (by omega)
      obtain ⟨x, hx, hlx⟩ := hcc k hlt
      have hx1 := (hbel.cell (p := ⟨b, off + k, none⟩) (World.block_lt_of_cell? w _ hx)).trans hx
      have HLX := Lib.hid (hlx.mono hbel)
      have HRX := Lib.hid (Octets.row HW.out k)
      have hrl := hlx.len
      obtain ⟨ax, cx, rfl, hcx, -, -⟩ := hlx
      obtain ⟨co, cc, rfl, hocc, -⟩ := own_open hown
      have HO := Lib.hid hown
      clear hcc hx hown hbel hCo
      generalize L.getD k [] = r at *
      generalize hrn : r.length = rl at *
      have HRN := Lib.hid hrn
      by_cases hc2 : C.length < 200
      · have hcI2 : (C.length : Int) < 200 := by omega
        by_cases h200 : 200 < rl
        · have h2I : (200 : Int) < (rl : Int) := by omega
          have HTK := Lib.hid ((HLX.out.takeN 200 (by omega)).mono (Below.refl _ _).drew)
          have HRO := Lib.hid (HRX.out.take 200)
          have HTL : Hid ((r.take 200).length = 200) := Lib.hid (by rw [List.length_take]; omega)
          have hcI : (200 : Int) ≤ (cx : Int) := by omega
          clear HLX HRX
          go_wp2_with fail
          go_region_law (refine step_append_of (f := byteV) rfl (.tmp 17) (.tmp 28) 23 rfl w.heap.size 5 i0 (.int .u8 0) 1 Try.underlying23 hi0 hz0 hz1 hz2 rfl (.slice co C.length cc) C.length (C.map byteV) rfl HO.out.drew (.slice ax 200 cx) (r.take 200) rfl HTK.out (fun y _ => rfl) (by rw [HTL.out]; unfold maxLen; omega) (by rw [HTL.out]; omega) (by simp; omega) ?_; intro v2 w2 hown1 hgrow1; rw [← List.map_append, HTL.out] at hown1; have ho2 := Lib.hid hown1; have hb2 := Lib.hid (HB.out.drew.grown hgrow1 (by simp; omega) (fun k hk => (HO.out.lt k hk).1)); clear hown1 hgrow1)
          all_goals go_wp2
          all_goals exact ⟨⟨k + 1, by omega, by go_num, ⟨C ++ r.take 200, HCO.out.append HRO.out, by rw [List.length_append, HTL.out]; omega, by rw [List.length_append, HTL.out]; exact ho2.out⟩, hb2.out⟩, by simp [intOf]; omega⟩
        · have h2I : (if (200 : Int) < (rl : Int) then (200 : Int) else (rl : Int)) = (rl : Int) := if_neg (by omega)
          have HTK := Lib.hid ((HLX.out.takeN rl (by omega)).mono (Below.refl _ _).drew)
          have HRO := Lib.hid (HRX.out.take rl)
          have HTL : Hid ((r.take rl).length = rl) := Lib.hid (by rw [List.length_take]; omega)
          have hcI : (rl : Int) ≤ (cx : Int) := by omega
          clear HLX HRX
          go_wp2_with fail
          go_region_law (refine step_append_of (f := byteV) rfl (.tmp 17) (.tmp 28) 23 rfl w.heap.size 5 i0 (.int .u8 0) 1 Try.underlying23 hi0 hz0 hz1 hz2 rfl (.slice co C.length cc) C.length (C.map byteV) rfl HO.out.drew (.slice ax rl cx) (r.take rl) rfl HTK.out (fun y _ => rfl) (by rw [HTL.out]; unfold maxLen; omega) (by rw [HTL.out]; omega) (by simp; omega) ?_; intro v2 w2 hown1 hgrow1; rw [← List.map_append, HTL.out] at hown1; have ho2 := Lib.hid hown1; have hb2 := Lib.hid (HB.out.drew.grown hgrow1 (by simp; omega) (fun k hk => (HO.out.lt k hk).1)); clear hown1 hgrow1)
          all_goals go_wp2
          all_goals exact ⟨⟨k + 1, by omega, by go_num, ⟨C ++ r.take rl, HCO.out.append HRO.out, by rw [List.length_append, HTL.out]; omega, by rw [List.length_append, HTL.out]; exact ho2.out⟩, hb2.out⟩, by simp [intOf]; omega⟩
      · have hcI2 : (200 : Int) ≤ (C.length : Int) := by omega
        have HLC := Lib.hid (ListAt.of_owns (n := C.length) HO.out)
        go_wp2
        go_ret
        exact ⟨_, C, rfl, HLC.out, HCO.out, hCl, HB.out⟩
    · obtain ⟨co, cc, rfl, -, -⟩ := own_open hown
      have HLC := Lib.hid (ListAt.of_owns (n := C.length) hown)
      have hkI : (L.length : Int) ≤ (k : Int) := by omega
      clear hown hbel hCo
      go_wp2
      go_ret
      exact ⟨_, C, rfl, HLC.out, HCO.out, hCl, HB.out⟩
end Go.Proofs.Ytibgddfnkfhlfaa
