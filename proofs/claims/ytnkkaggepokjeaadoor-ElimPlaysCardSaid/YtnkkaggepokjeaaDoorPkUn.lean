/- Package geyserref02: Unpack. -/
import Derived.Test.YtnkkaggepokjeaaDoorPkHas
import Derived.Test.YtnkkaggepokjeaaDoorLists
import Derived.OwnWalk
import Derived.WalkSpells
import Derived.WalkLawsBesides
import Derived.Deep.LoopGhost
namespace Go.Proofs.YtnkkaggepokjeaaDoor
open Go.RowKit Go.Extern.Stop Go.Stop Go.Extern

def colV (c : Nat) : Value := .int .i64 (c : Int)

theorem ListAt.cols {w : World} {v : Value} {l : List Nat} (h : ListAt colV w v l) : ListAt intV w v (l.map Int.ofNat) := by
  obtain ⟨a, cap, rfl, hc, hm, h⟩ := h
  refine ⟨a, cap, by simp, by simpa using hc, hm, fun hp => ?_⟩
  obtain ⟨b, off, rfl, hcell⟩ := h (by simpa using hp)
  refine ⟨b, off, rfl, fun j hj => ?_⟩
  rw [hcell j (by simpa using hj)]
  simp [intV, colV]

set_option maxRecDepth 1000000 in
set_option maxHeartbeats 1000000 in
theorem refUnpack_any {w : World} (v : Value) (ws : List Nat) (h : ListAt wordV w v ws) (hw : Word ws) (hlen : ws.length ≤ 100000) :
    Calls Tryd.prog 43 #[v] w fun e w' => ∃ v', e = .returned v' ∧ ListAt colV w' v' (colsOf ws) ∧ Below w.heap.size w w' := by
  obtain ⟨i0, hi, hz0, hz1, hz2⟩ := info_parts info_int
  have HL := Lib.hid h
  have HW := Lib.hid hw
  obtain ⟨a, cap, rfl, -, -, -⟩ := h
  clear hw
  go_enter Tryd.func43, Tryd.ntmps43
  go_wp2
  go_loopw [3, 4] (fun v i wr => ∃ k : Nat, k ≤ 64 * ws.length ∧ i = .int .i64 k ∧ wr.ownsRow w.heap.size 3 1 v (colsTo ws k).length ((colsTo ws k).map colV) ∧ Below w.heap.size w wr) (fun _ i _ => 64 * ws.length - (intOf i).toNat)
  case atStart => exact ⟨0, Nat.zero_le _, rfl, World.ownsRow_made (base := w.heap.size) (e := 3) (size := 1) w #[] 0 (Nat.le_refl _) (by decide) rfl, (Below.refl _ _).alloc (Nat.le_refl _) _⟩
  case round =>
    obtain ⟨k, hk, rfl, hown, hbel⟩ := hrel
    have hsz := hbel.size
    have hq := colsTo_length_le ws k
    by_cases hlt : k < 64 * ws.length
    · by_cases hb : bitW ws k = true
      · have HI : Hid (hasI ws (k : Int) = true) := Lib.hid (by rw [hasI, if_neg (by omega)]; exact hb)
        have HS := Lib.hid (colsTo_one ws k hb)
        have HO := Lib.hid (hown.alloc (.cells #[.int .i64 (k : Int)] 3))
        have HB := Lib.hid hbel
        clear hown hbel hb
        generalize hqe : (colsTo ws k).length = q at *
        have HQ := Lib.hid hqe
        clear hqe
        go_wp2_with fail
        refine (refHas_any _ ws (k : Int) (HL.out.mono HB.out) HW.out hlen (by omega)).mono ?_
        rintro e w1 ⟨rfl, rfl⟩
        rw [HI.out]
        go_wp2_with (at_builtin; refine wpList_append_own _ rfl (.tmp 16) (.tmp 18) 49 rfl w.heap.size 3 i0 (.int .i64 0) 1 8 Tryd.underlying49 hi hz0 hz1 hz2 rfl (by decide) u3 q ((colsTo ws k).map colV) rfl HO.out ⟨wr.heap.size, 0, none⟩ 1 1 [.int .i64 (k : Int)] rfl rfl (cell_one_new _ _ _) (fun x hx => by simp at hx; subst hx; rfl) (by unfold maxLen; omega) (by omega) (by simp; omega) ?_; intro v2 w2 hown1 hgrow1 _; have hb2 := Lib.hid ((HB.out.alloc hsz _).grown hgrow1 (by simp; omega) (fun k hk => (HO.out.lt k hk).1)); have ho2 := Lib.hid hown1; clear hown1 hgrow1)
        go_roundw
        case rel => exact ⟨k + 1, by omega, by go_num, by rw [HS.out]; exact own_snoc HQ.out ho2.out, hb2.out⟩
        case measure => simp [intOf]; omega
      · have hb' : bitW ws k = false := by simpa using hb
        have HI : Hid (hasI ws (k : Int) = false) := Lib.hid (by rw [hasI, if_neg (by omega)]; exact hb')
        have HS := Lib.hid (colsTo_none ws k hb')
        have HO := Lib.hid hown
        have HB := Lib.hid hbel
        clear hown hbel hb hb'
        go_wp2_with fail
        refine (refHas_any _ ws (k : Int) (HL.out.mono HB.out) HW.out hlen (by omega)).mono ?_
        rintro e w1 ⟨rfl, rfl⟩
        rw [HI.out]
        go_wp2
        go_roundw
        case rel => exact ⟨k + 1, by omega, by go_num, by rw [HS.out]; exact HO.out, HB.out⟩
        case measure => simp [intOf]; omega
    · have hk' : k = 64 * ws.length := by omega
      have HO := Lib.hid hown
      have HB := Lib.hid hbel
      clear hown hbel
      go_wp2
      go_ret
      exact ⟨_, rfl, .of_owns (n := (colsTo ws k).length) (by have := HO.out; rw [hk'] at this ⊢; exact this), HB.out⟩
end Go.Proofs.YtnkkaggepokjeaaDoor
