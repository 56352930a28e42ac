/- Package elim: (*System).Add. -/
import Derived.Test.YtnkkaggepokjeaaDoorElC
import Derived.Test.YtnkkaggepokjeaaDoorSyB
namespace Go.Proofs.YtnkkaggepokjeaaDoor
open Go.RowKit Go.Extern.Stop Go.Stop Go.Extern

def nameElAdd : ByteArray := ⟨#[101, 108, 105, 109, 46, 65, 100, 100]⟩

section
variable {w : World} {b kb n size : Nat} {f : Nat → Option Eqn} {rv sv : Nat → Value}

theorem addr_ne {b b' j j' : Nat} (h : b ≠ b' ∨ j ≠ j') : (⟨b, j, none⟩ : Addr) ≠ ⟨b', j', none⟩ := fun e => by
  injection e with e1 e2
  rcases h with h | h
  · exact h e1
  · exact h e2

def updV (rv : Nat → Value) (c : Nat) (v : Value) : Nat → Value := fun d => if d = c then v else rv d

/-- One more is kept. -/
theorem SysM.put (h : SysM w b kb n size f rv sv false) {c : Nat} {q : Eqn} {r1 s1 : Value} (hc : c < n) (hf : f c = none) (h1 : OwnRow wordV 47 w r1 (kOf n) q.1) (h2 : OwnRow byteV 5 w s1 size q.2) (hq : EqOk n size q) (hl : Lead (bitW q.1) c) :
    SysM (((w.setCell ⟨kb, c * 2, none⟩ r1).setCell ⟨kb, c * 2 + 1, none⟩ s1).setCell ⟨b, 3, none⟩ (.int .i64 ((cntF f n : Int) + 1))) b kb n size (putF f c q) (updV rv c r1) (updV sv c s1) false := by
  have hne := h.ne
  obtain ⟨cur, hk⟩ := h.kobj
  have k1 := heap_setCell_at (j := c * 2) (u := r1) hk
  have k2 := heap_setCell_at (j := c * 2 + 1) (u := s1) k1
  have k3 := (Below.heap_setCell ((w.setCell ⟨kb, c * 2, none⟩ r1).setCell ⟨kb, c * 2 + 1, none⟩ s1) ⟨b, 3, none⟩ (.int .i64 ((cntF f n : Int) + 1)) kb (fun e => hne e.symm)).trans k2
  have o1 := (Below.heap_setCell w ⟨kb, c * 2, none⟩ r1 b hne).trans h.obj
  have o2 := (Below.heap_setCell (w.setCell ⟨kb, c * 2, none⟩ r1) ⟨kb, c * 2 + 1, none⟩ s1 b hne).trans o1
  have o3 := heap_setCell_at (j := 3) (u := .int .i64 ((cntF f n : Int) + 1)) o2
  have tr : ∀ (e : TypeId) (v : Value) (k : Nat) (xs : List Value), e = 47 ∨ e = 5 → w.ownsRow 0 e 1 v k xs → (((w.setCell ⟨kb, c * 2, none⟩ r1).setCell ⟨kb, c * 2 + 1, none⟩ s1).setCell ⟨b, 3, none⟩ (.int .i64 ((cntF f n : Int) + 1))).ownsRow 0 e 1 v k xs := fun e v k xs he ho =>
    own_set (own_set (own_set ho hk (by rcases he with rfl | rfl <;> decide) _ _) k1 (by rcases he with rfl | rfl <;> decide) _ _) o2 (by rcases he with rfl | rfl <;> decide) _ _
  refine ⟨?_, ⟨_, k3⟩, fun d hd => ?_, fun d hd => ?_, h.num⟩
  · rw [cntF_put hf hc]
    exact o3
  · obtain ⟨g1, g2⟩ := h.kcell d hd
    obtain ⟨e1, e2⟩ := h.kcell c hc
    rw [World.cell?_setCell_other (h := addr_ne (.inl hne)), World.cell?_setCell_other (h := addr_ne (.inl hne))]
    unfold updV
    by_cases e : d = c
    · subst e
      rw [if_pos rfl, if_pos rfl]
      exact ⟨by rw [World.cell?_setCell_other (h := addr_ne (.inr (by omega)))]; exact World.cell?_setCell_same _ _ _ e1, World.cell?_setCell_same _ _ _ (by rw [World.cell?_setCell_other (h := addr_ne (.inr (by omega)))]; exact e2)⟩
    · rw [if_neg e, if_neg e]
      refine ⟨?_, ?_⟩ <;> rw [World.cell?_setCell_other (h := addr_ne (.inr (by omega))), World.cell?_setCell_other (h := addr_ne (.inr (by omega)))]
      · exact g1
      · exact g2
  · unfold updV putF
    by_cases e : d = c
    · subst e
      rw [if_pos rfl, if_pos rfl, if_pos rfl]
      exact ⟨tr _ _ _ _ (.inl rfl) h1, tr _ _ _ _ (.inr rfl) h2, hq, hl⟩
    · rw [if_neg e, if_neg e, if_neg e]
      have hp := h.place d hd
      cases hfd : f d with
      | none => rw [hfd] at hp; exact hp
      | some p =>
        rw [hfd] at hp
        exact ⟨tr _ _ _ _ (.inl rfl) hp.1, tr _ _ _ _ (.inr rfl) hp.2.1, hp.2.2⟩

/-- It has clashed. -/
theorem SysM.clash (h : SysM w b kb n size f rv sv false) : SysM (w.setCell ⟨b, 4, none⟩ (.bool true)) b kb n size f rv sv true := by
  have hne := h.ne
  obtain ⟨cur, hk⟩ := h.kobj
  have k3 := (Below.heap_setCell w ⟨b, 4, none⟩ (.bool true) kb (fun e => hne e.symm)).trans hk
  have o3 := heap_setCell_at (j := 4) (u := .bool true) h.obj
  refine ⟨o3, ⟨_, k3⟩, fun d hd => ?_, fun d hd => ?_, h.num⟩
  · obtain ⟨g1, g2⟩ := h.kcell d hd
    rw [World.cell?_setCell_other (h := addr_ne (.inl hne)), World.cell?_setCell_other (h := addr_ne (.inl hne))]
    exact ⟨g1, g2⟩
  · have hp := h.place d hd
    cases hfd : f d with
    | none => rw [hfd] at hp; exact hp
    | some p =>
      rw [hfd] at hp
      exact ⟨own_set hp.1 h.obj (by decide) _ _, own_set hp.2.1 h.obj (by decide) _ _, hp.2.2⟩
end

theorem elAdd_nil {w : World} (v1 v2 : Value) : Calls Tryd.prog 16 #[nilP, v1, v2] w fun e w' => ∃ E, e = .returned (.tuple #[.int .i64 0, E]) ∧ ErrAns 7 nameElAdd w' E ∧ Below w.heap.size w w' := by
  go_enter Tryd.func16, Tryd.ntmps16
  go_wp2_with fail
  refine over_nil.mono ?_
  rintro e w1 ⟨rfl, rfl⟩
  go_wp2_with fail
  refine (New_ans nameElAdd 7 (by decide) _).mono ?_
  rintro e w1 ⟨E1, rfl, he1, hb1⟩
  have HE1 := Lib.hid he1
  have HB1 := Lib.hid hb1
  obtain ⟨u, x, rfl⟩ := he1.some (by decide)
  clear he1 hb1
  go_wp2
  go_ret2
  exact ⟨_, rfl, HE1.out, HB1.out⟩
theorem elAdd_over {w : World} (b : Nat) (v1 v2 : Value) (h : w.cell? ⟨b, 4, none⟩ = some (.bool true)) : Calls Tryd.prog 16 #[sysP b, v1, v2] w fun e w' => ∃ E, e = .returned (.tuple #[.int .i64 0, E]) ∧ ErrAns 7 nameElAdd w' E ∧ Below w.heap.size w w' := by
  have HC := Lib.hid h
  go_enter Tryd.func16, Tryd.ntmps16
  go_wp2_with fail
  refine (over_any b true HC.out).mono ?_
  rintro e w1 ⟨rfl, rfl⟩
  go_wp2_with fail
  refine (New_ans nameElAdd 7 (by decide) _).mono ?_
  rintro e w1 ⟨E1, rfl, he1, hb1⟩
  have HE1 := Lib.hid he1
  have HB1 := Lib.hid hb1
  obtain ⟨u, x, rfl⟩ := he1.some (by decide)
  clear he1 hb1
  go_wp2
  go_ret2
  exact ⟨_, rfl, HE1.out, HB1.out⟩
theorem elAdd_form {w : World} (b n size : Nat) (v1 v2 : Value) (row sym : List Nat) (h0 : w.cell? ⟨b, 0, none⟩ = some (.int .i64 (n : Int))) (h1 : w.cell? ⟨b, 1, none⟩ = some (.int .i64 (size : Int))) (h4 : w.cell? ⟨b, 4, none⟩ = some (.bool false))
    (hr : ListAt wordV w v1 row) (hs : ListAt byteV w v2 sym) (hw : Word row) (hn : n ≤ 4096) (hno : ¬ (wholeB n row = true ∧ sym.length = size)) :
    Calls Tryd.prog 16 #[sysP b, v1, v2] w fun e w' => ∃ E, e = .returned (.tuple #[.int .i64 0, E]) ∧ ErrAns 2 nameElAdd w' E ∧ Below w.heap.size w w' := by
  have HC := Lib.hid h4
  have HR := Lib.hid hr
  have HW := Lib.hid hw
  have hlen := hs.len
  obtain ⟨a1, cp1, rfl, -, -, -⟩ := hr
  obtain ⟨a2, cp2, rfl, -, -, -⟩ := hs
  cases hb : wholeB n row with
  | false =>
    have HWB := Lib.hid hb
    clear hb hno hw
    go_enter Tryd.func16, Tryd.ntmps16
    go_wp2_with fail
    refine (over_any b false HC.out).mono ?_
    rintro e w1 ⟨rfl, rfl⟩
    go_wp2_with fail
    refine (eformed_any _ row n HR.out HW.out hn).mono ?_
    rintro e w1 ⟨rfl, rfl⟩
    rw [HWB.out]
    go_wp2_with fail
    refine (New_ans nameElAdd 2 (by decide) _).mono ?_
    rintro e w1 ⟨E1, rfl, he1, hb1⟩
    have HE1 := Lib.hid he1
    have HB1 := Lib.hid hb1
    obtain ⟨u, x, rfl⟩ := he1.some (by decide)
    clear he1 hb1
    go_wp2
    go_ret2
    exact ⟨_, rfl, HE1.out, HB1.out⟩
  | true =>
    have HWB := Lib.hid hb
    have hne : ¬ sym.length = size := fun e => hno ⟨hb, e⟩
    have hq : ((sym.length : Int) != (size : Int)) = true := by simp; omega
    have hq2 : ((sym.length : Int) == (size : Int)) = false := by simp; omega
    clear hb hno hw hne
    go_enter Tryd.func16, Tryd.ntmps16
    go_wp2_with fail
    refine (over_any b false HC.out).mono ?_
    rintro e w1 ⟨rfl, rfl⟩
    go_wp2_with fail
    refine (eformed_any _ row n HR.out HW.out hn).mono ?_
    rintro e w1 ⟨rfl, rfl⟩
    rw [HWB.out]
    go_wp2_with fail
    refine (New_ans nameElAdd 2 (by decide) _).mono ?_
    rintro e w1 ⟨E1, rfl, he1, hb1⟩
    have HE1 := Lib.hid he1
    have HB1 := Lib.hid hb1
    obtain ⟨u, x, rfl⟩ := he1.some (by decide)
    clear he1 hb1
    go_wp2
    go_ret2
    exact ⟨_, rfl, HE1.out, HB1.out⟩
end Go.Proofs.YtnkkaggepokjeaaDoor
