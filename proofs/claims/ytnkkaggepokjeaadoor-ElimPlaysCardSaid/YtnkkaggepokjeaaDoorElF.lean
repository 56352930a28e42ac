/- Package elim: New; (*System).Value. -/
import Derived.Test.YtnkkaggepokjeaaDoorElE
import Derived.Test.YtnkkaggepokjeaaDoorPkOwn
namespace Go.Proofs.YtnkkaggepokjeaaDoor
open Go.RowKit Go.Extern.Stop Go.Stop Go.Extern

def nameElNew : ByteArray := ⟨#[101, 108, 105, 109, 46, 78, 101, 119]⟩
def nameElValue : ByteArray := ⟨#[101, 108, 105, 109, 46, 86, 97, 108, 117, 101]⟩

theorem info_eqn : (Tryd.prog.info? 82).map (fun i => (i.zero, i.size, i.bytes)) = some (some (.agg #[.slice none 0 0, .slice none 0 0]), 2, 48) := by kernel_rfl

theorem made_pair (z : Value) (m j : Nat) (h : j < m) : (madeCells #[z, z] m).toList[j]? = some z := by
  unfold madeCells
  simp [h]
  rcases Nat.mod_two_eq_zero_or_one j with e | e <;> rw [e] <;> rfl

theorem elNew_bad {w : World} (n size : Int) (h : n < 1 ∨ 4096 < n ∨ size < 1 ∨ 64 < size) :
    Calls Tryd.prog 11 #[.int .i64 n, .int .i64 size] w fun e w' => ∃ E, e = .returned (.tuple #[nilP, E]) ∧ ErrAns 1 nameElNew w' E ∧ Below w.heap.size w w' := by
  by_cases h1 : n < 1
  · clear h
    go_enter Tryd.func11, Tryd.ntmps11
    go_wp2_with fail
    refine (New_ans nameElNew 1 (by decide) _).mono ?_
    rintro e w1 ⟨E1, rfl, he1, hb1⟩
    have HE1 := Lib.hid he1
    have HB1 := Lib.hid hb1
    obtain ⟨u, x, rfl⟩ := he1.some (by decide)
    clear he1 hb1
    go_wp2
    go_ret2
    exact ⟨_, rfl, HE1.out, HB1.out⟩
  by_cases h2 : 4096 < n
  · clear h
    go_enter Tryd.func11, Tryd.ntmps11
    go_wp2_with fail
    refine (New_ans nameElNew 1 (by decide) _).mono ?_
    rintro e w1 ⟨E1, rfl, he1, hb1⟩
    have HE1 := Lib.hid he1
    have HB1 := Lib.hid hb1
    obtain ⟨u, x, rfl⟩ := he1.some (by decide)
    clear he1 hb1
    go_wp2
    go_ret2
    exact ⟨_, rfl, HE1.out, HB1.out⟩
  by_cases h3 : size < 1
  · clear h
    go_enter Tryd.func11, Tryd.ntmps11
    go_wp2_with fail
    refine (New_ans nameElNew 1 (by decide) _).mono ?_
    rintro e w1 ⟨E1, rfl, he1, hb1⟩
    have HE1 := Lib.hid he1
    have HB1 := Lib.hid hb1
    obtain ⟨u, x, rfl⟩ := he1.some (by decide)
    clear he1 hb1
    go_wp2
    go_ret2
    exact ⟨_, rfl, HE1.out, HB1.out⟩
  · have h4 : 64 < size := by omega
    clear h
    go_enter Tryd.func11, Tryd.ntmps11
    go_wp2_with fail
    refine (New_ans nameElNew 1 (by decide) _).mono ?_
    rintro e w1 ⟨E1, rfl, he1, hb1⟩
    have HE1 := Lib.hid he1
    have HB1 := Lib.hid hb1
    obtain ⟨u, x, rfl⟩ := he1.some (by decide)
    clear he1 hb1
    go_wp2
    go_ret2
    exact ⟨_, rfl, HE1.out, HB1.out⟩

set_option maxRecDepth 1000000 in
theorem elNew_any {w : World} (n size : Nat) (hn1 : 1 ≤ n) (hn2 : n ≤ 4096) (hs1 : 1 ≤ size) (hs2 : size ≤ 64) :
    Calls Tryd.prog 11 #[.int .i64 (n : Int), .int .i64 (size : Int)] w fun e w' => ∃ b kb, e = .returned (.tuple #[sysP b, .nilIface]) ∧ SysM w' b kb n size (fun _ => none) (fun _ => nilS) (fun _ => nilS) false ∧
      w.heap.size ≤ b ∧ w.heap.size ≤ kb ∧ Below w.heap.size w w' := by
  obtain ⟨i0, hi, hz0, hz1, hz2⟩ := info_parts info_eqn
  have h1 : (1 : Int) ≤ (n : Int) := by omega
  have h2 : (n : Int) ≤ 4096 := by omega
  have h3 : (1 : Int) ≤ (size : Int) := by omega
  have h4 : (size : Int) ≤ 64 := by omega
  go_enter Tryd.func11, Tryd.ntmps11
  go_wp2_with (at_make; refine wpList_make_full _ rfl _ _ 72 rfl w.heap.size 82 i0 (.agg #[.slice none 0 0, .slice none 0 0]) 2 Tryd.underlying72 hi hz0 hz1 .i64 .i64 _ _ n rfl rfl rfl rfl (by rw [hz2]; omega) (by unfold maxLen; omega) (Nat.le_refl _) ?_; intro w0 hown0 hgrow0; have hb0 := Lib.hid ((Below.refl w.heap.size w).grown hgrow0 (Nat.le_refl _) (fun k hk => by cases hk)); have ho0 := Lib.hid hown0; clear hown0 hgrow0)
  go_ret2
  have hk : ∃ cur, w0.heap[w.heap.size]? = some (.cells cur 82 (0, 0)) := by
    rcases ho0.out.2 with ⟨e1, _⟩ | ⟨g, cap, cur, e1, _, h3, _⟩
    · cases e1
    · have : w.heap.size = g := by simpa [Value.ownBlock] using congrArg Value.ownBlock e1
      rw [this]; exact ⟨cur, h3⟩
  obtain ⟨cur, hk⟩ := hk
  have hklt : w.heap.size < w0.heap.size := (Array.getElem?_eq_some_iff.1 hk).1
  have hk' := (Below.heap_alloc w0 (.cells (sysCells n size w.heap.size 0 false) 74) _ hklt).trans hk
  refine ⟨w0.heap.size, w.heap.size, rfl, ⟨?_, ⟨cur, hk'⟩, fun c hc => ?_, fun c hc => ⟨rfl, rfl⟩, hn1, hn2, hs1, hs2⟩, by omega, Nat.le_refl _, hb0.out.alloc (by omega) _⟩
  · rw [cntF_none]
    exact heap_alloc_new w0 _
  · have hx : ∀ j, j < n * 2 → w0.cell? ⟨w.heap.size, j, none⟩ = some nilS := fun j hj => by
      rw [ho0.out.cellAt j hj]
      exact made_pair _ _ _ hj
    have hbd : Below w0.heap.size w0 (w0.alloc (.cells (sysCells n size w.heap.size 0 false) 74)) := (Below.refl _ _).alloc (Nat.le_refl _) _
    exact ⟨(hbd.cell (p := ⟨w.heap.size, c * 2, none⟩) hklt).trans (hx _ (by omega)), (hbd.cell (p := ⟨w.heap.size, c * 2 + 1, none⟩) hklt).trans (hx _ (by omega))⟩
end Go.Proofs.YtnkkaggepokjeaaDoor
