/- Package elim: its calls, by what a system's equations span. -/
import Derived.Test.YtnkkaggepokjeaaDoorElH
namespace Go.Proofs.YtnkkaggepokjeaaDoor
open Go.RowKit Go.Extern.Stop Go.Stop Go.Extern

section
variable {w w' : World} {b n size r kb : Nat} {K : List Vec} {cl : Bool}

theorem Sys.base (h : Sys w b n size K r cl kb) : b < w.heap.size ∧ kb < w.heap.size ∧ b ≠ kb ∧ 1 ≤ n ∧ n ≤ 4096 ∧ 1 ≤ size ∧ size ≤ 64 ∧ r ≤ n := by
  obtain ⟨f, rv, sv, h1, h2, rfl⟩ := h
  exact ⟨h1.lt, h1.klt, h1.ne, h1.num.1, h1.num.2.1, h1.num.2.2.1, h1.num.2.2.2, cntF_le f n⟩
theorem Sys.cells (h : Sys w b n size K r cl kb) : w.cell? ⟨b, 0, none⟩ = some (.int .i64 (n : Int)) ∧ w.cell? ⟨b, 1, none⟩ = some (.int .i64 (size : Int)) ∧ w.cell? ⟨b, 2, none⟩ = some (.slice (some ⟨kb, 0, none⟩) n n) ∧
    w.cell? ⟨b, 3, none⟩ = some (.int .i64 (r : Int)) ∧ w.cell? ⟨b, 4, none⟩ = some (.bool cl) := by
  obtain ⟨f, rv, sv, h1, h2, rfl⟩ := h
  exact h1.cells
theorem Sys.congr {M : List Vec} (h : Sys w b n size K r cl kb) (e : SpEq K M) : Sys w b n size M r cl kb := by
  obtain ⟨f, rv, sv, h1, h2, h3⟩ := h
  exact ⟨f, rv, sv, h1, h2.trans e, h3⟩
theorem Sys.cons (h : Sys w b n size K r cl kb) : Cons n K := by
  obtain ⟨f, rv, sv, h1, h2, h3⟩ := h
  exact (stair_cons h1.stair).congr h2
theorem Sys.other {b' kb' n' size' r' : Nat} {K' : List Vec} {cl' : Bool} (h : Sys w b n size K r cl kb) (ho : Sys w b' n' size' K' r' cl' kb') (ht : Touch b kb w w') (hb : b' ≠ b) (hk : kb' ≠ kb) : Sys w' b' n' size' K' r' cl' kb' := by
  obtain ⟨f, rv, sv, h1, h2, h3⟩ := h
  obtain ⟨f', rv', sv', k1, k2⟩ := ho
  exact ⟨f', rv', sv', ht.other h1 k1 hb hk, k2⟩
theorem Sys.own {e : TypeId} {v : Value} {k base : Nat} {xs : List Value} (h : Sys w b n size K r cl kb) (ht : Touch b kb w w') (he : e ≠ 74 ∧ e ≠ 82) (ho : w.ownsRow base e 1 v k xs) : w'.ownsRow base e 1 v k xs := by
  obtain ⟨f, rv, sv, h1, h2, h3⟩ := h
  exact ht.own h1 he ho
end

theorem stL_none (n : Nat) : SpEq (stL (uF (fun _ => none) n) n) [] := .of
  (fun s hs => by
    obtain ⟨c, _, rfl⟩ := mem_stL.1 hs
    rw [uF_none rfl]
    exact Sp.zero _) (fun s hs => by cases hs)

theorem sysNew {w : World} (n size : Nat) (hn1 : 1 ≤ n) (hn2 : n ≤ 4096) (hs1 : 1 ≤ size) (hs2 : size ≤ 64) :
    Calls Tryd.prog 11 #[.int .i64 (n : Int), .int .i64 (size : Int)] w fun e w' => ∃ b kb, e = .returned (.tuple #[sysP b, .nilIface]) ∧ Sys w' b n size [] 0 false kb ∧
      w.heap.size ≤ b ∧ w.heap.size ≤ kb ∧ Below w.heap.size w w' := by
  refine (elNew_any n size hn1 hn2 hs1 hs2).mono ?_
  rintro e w' ⟨b, kb, rfl, h1, h2, h3, h4⟩
  exact ⟨b, kb, rfl, ⟨_, _, _, h1, stL_none n, cntF_none n⟩, h2, h3, h4⟩

theorem kindV_two {n : Nat} {K : List Vec} {l : Vec} (h : kindV n K l = 2) : Sp K l := by
  unfold kindV at h
  split at h
  · split at h
    · assumption
    · cases h
  · cases h
/-- The equations behind one more. -/
noncomputable def addV (n : Nat) (K : List Vec) (l : Vec) : List Vec := if kindV n K l = 3 then K else K ++ [l]
noncomputable def addR (n : Nat) (K : List Vec) (l : Vec) (r : Nat) : Nat := r + if kindV n K l = 1 then 1 else 0

theorem sysAdd {w : World} (b n size : Nat) (K : List Vec) (r kb : Nat) (v1 v2 : Value) (row sym : List Nat) (hS : Sys w b n size K r false kb) (hT : Tab w) (h1 : ListAt wordV w v1 row) (h2 : ListAt byteV w v2 sym) (hok : EqOk n size (row, sym)) :
    Calls Tryd.prog 16 #[sysP b, v1, v2] w fun e w' => e = .returned (.tuple #[.int .i64 (kindV n K (longV row sym n) : Nat), .nilIface]) ∧ Touch b kb w w' ∧
      Sys w' b n size (addV n K (longV row sym n)) (addR n K (longV row sym n) r) (decide (kindV n K (longV row sym n) = 3)) kb := by
  obtain ⟨f, rv, sv, k1, k2, rfl⟩ := hS
  refine (elAdd_any b kb n size f rv sv v1 v2 row sym k1 hT h1 h2 hok).mono ?_
  rintro e w' ⟨k, rfl, ht, hk, f', rv', sv', m1, m2, m3⟩
  rw [kindV_congr k2] at hk
  refine ⟨by rw [hk], ht, f', rv', sv', by rw [← hk]; exact m1, ?_, ?_⟩
  · unfold addV
    rw [← hk]
    by_cases e3 : k = 3
    · rw [if_pos e3, m3 (by omega)]; exact k2
    · rw [if_neg e3]
      by_cases e1 : k = 1
      · exact (m2 e1).1.trans (k2.snoc _)
      · rw [m3 e1]
        refine k2.trans ?_
        have : k = 2 := by
          have h : kindV n K (longV row sym n) = 1 ∨ kindV n K (longV row sym n) = 2 ∨ kindV n K (longV row sym n) = 3 := by
            unfold kindV; split
            · split
              · exact .inr (.inl rfl)
              · exact .inr (.inr rfl)
            · exact .inl rfl
          omega
        exact (SpEq.snoc_in (kindV_two (hk.symm.trans this))).symm
  · unfold addR
    rw [← hk]
    by_cases e1 : k = 1
    · rw [if_pos e1, (m2 e1).2]
    · rw [if_neg e1, m3 e1]; rfl

theorem sysVal {w : World} (b n size : Nat) (K : List Vec) (r kb c : Nat) (hS : Sys w b n size K r false kb) (hT : Tab w) (hc : c < n) :
    Calls Tryd.prog 22 #[sysP b, .int .i64 (c : Int)] w fun e w' => Below w.heap.size w w' ∧
      ((¬ Sp (K.map (proj n)) (unitV c) ∧ ∃ E, e = .returned (.tuple #[nilS, E]) ∧ ErrAns 4 nameElValue w' E) ∨
       ∃ x v', ValV n K c x ∧ e = .returned (.tuple #[v', .nilIface]) ∧ w'.ownsRow w.heap.size 5 1 v' size ((symV n size x).map byteV)) := by
  obtain ⟨f, rv, sv, k1, k2, k3⟩ := hS
  refine (elVal_any b kb n size f rv sv c k1 hT hc).mono ?_
  rintro e w' ⟨hb, ⟨h1, h2⟩ | ⟨x, v', h1, h2, h3⟩⟩
  · refine ⟨hb, .inl ⟨fun hs => h1 ?_, h2⟩⟩
    obtain ⟨v, hv, ev⟩ := Sp_lift hs
    rw [← ev]
    exact Sp_proj n ((k2 v).2 hv)
  · exact ⟨hb, .inr ⟨x, v', h1.congr k2, h2, h3⟩⟩
end Go.Proofs.YtnkkaggepokjeaaDoor
