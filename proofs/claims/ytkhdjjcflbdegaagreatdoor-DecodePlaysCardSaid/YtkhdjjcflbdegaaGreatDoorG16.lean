import Derived.Test.YtkhdjjcflbdegaaGreatDoorG08
import Derived.Test.YtkhdjjcflbdegaaGreatDoorG09
import Derived.Test.YtkhdjjcflbdegaaGreatDoorG15

section
/- Lists of rows in memory: as they are read (MatAt), as a call makes them (ElAt, MatOwn). -/
namespace Go.Proofs.YtkhdjjcflbdegaaGreatDoor
open Go.RowKit Go.Extern.Stop Go.Stop Go.Extern

def boolV (b : Bool) : Value := .bool b

theorem info_row : (Tryz.prog.info? 79).map (fun i => (i.zero, i.size, i.bytes)) = some (some (.slice none 0 0), 1, 24) := by kernel_rfl
theorem info_brow : (Tryz.prog.info? 138).map (fun i => (i.zero, i.size, i.bytes)) = some (some (.slice none 0 0), 1, 24) := by kernel_rfl
theorem info_bool : (Tryz.prog.info? 4).map (fun i => (i.zero, i.size, i.bytes)) = some (some (.bool false), 1, 1) := by kernel_rfl





theorem MatAt.getD_words {w : World} {v : Value} {L : List (List Nat)} (_ : MatAt wordV w v L) (h : ∀ r ∈ L, Word r) (k : Nat) : Word (L.getD k []) := by
  by_cases hk : k < L.length
  · exact h _ (getD_mem' hk)
  · rw [List.getD_eq_getElem?_getD, List.getElem?_eq_none (by omega)]
    intro x hx
    simp at hx

end Go.Proofs.YtkhdjjcflbdegaaGreatDoor
end

section
/- A list of rows of the call's own, each row in memory of the call's own (MatFresh). -/
namespace Go.Proofs.YtkhdjjcflbdegaaGreatDoor
open Go.RowKit Go.Extern.Stop Go.Stop Go.Extern

def MatFresh {α : Type} (f : α → Value) (te : TypeId) (base : Nat) (e : TypeId) (w : World) (v : Value) (L : List (List α)) : Prop :=
  ∃ vs : List Value, w.ownsRow base e 1 v L.length vs ∧ (∀ i, ElAt f te base w (vs.getD i nilS) (L.getD i [])) ∧ ∀ x ∈ vs, ∀ b, x.ownBlock = some b → base ≤ b

theorem own_ge {g base n c : Nat} (h : base ≤ g) : ∀ b, (Value.slice (some ⟨g, 0, none⟩) n c).ownBlock = some b → base ≤ b := by
  intro b hb
  have e : g = b := by simpa [Value.ownBlock] using hb
  omega

section
variable {α : Type} {f : α → Value} {w w2 wr : World} {v v2 x : Value} {L : List (List α)} {te e : TypeId} {base : Nat} {r : List α} {vs : List Value}

theorem MatFresh.own (h : MatFresh f te base e w v L) : MatOwn f te base e w v L := by
  obtain ⟨vs, h1, h2, -⟩ := h
  exact ⟨vs, h1, h2⟩
theorem MatFresh.empty (w : World) : MatFresh f te base e w (.slice none 0 0) [] :=
  ⟨[], World.ownsRow_nil _ _ _ _, fun i => by simpa using ElAt.nil f te base _, fun x hx => by simp at hx⟩
theorem MatFresh.app {o : Obj} (hfr : ∀ x ∈ vs, ∀ b, x.ownBlock = some b → base ≤ b) (hxb : ∀ b, x.ownBlock = some b → base ≤ b) (hne : e ≠ te) (hown : w.ownsRow base e 1 v L.length vs) (hel : ∀ i, ElAt f te base w (vs.getD i nilS) (L.getD i [])) (hx : ElAt f te base w x r)
    (hown' : w2.ownsRow base e 1 v2 (L.length + 1) (vs ++ [x])) (hg : (w.alloc o).grownBy w2 v.ownBlock) : MatFresh f te base e w2 v2 (L ++ [r]) := by
  have hb : Below w.heap.size w (w.alloc o) := (Below.refl _ _).alloc (Nat.le_refl _) _
  have hl : vs.length = L.length := by have := hown.1; omega
  refine ⟨vs ++ [x], by rw [List.length_append]; exact hown', fun i => ?_, fun y hy b hyb => ?_⟩
  · rw [getD_snoc, getD_snoc, hl]
    by_cases h : i < L.length
    · rw [if_pos h, if_pos h]; exact ((hel i).mono hb).grown hne (hown.alloc o) hg
    · rw [if_neg h, if_neg h]
      by_cases h2 : i = L.length
      · rw [if_pos h2, if_pos h2]; exact (hx.mono hb).grown hne (hown.alloc o) hg
      · rw [if_neg h2, if_neg h2]; exact ElAt.nil f te base _
  · rcases List.mem_append.1 hy with h | h
    · exact hfr y h b hyb
    · rw [List.mem_singleton.1 h] at hyb; exact hxb b hyb
/-- What is written into a row that is older leaves it as it reads. -/
theorem MatFresh.at_kept {row : Option Nat} (h : MatFresh f te base e w v L) (hg : w.grownBy wr row) (hr : ∀ b, row = some b → b < base) : MatAt f wr v L := by
  obtain ⟨vs, h1, h2, h3⟩ := h
  have hl : vs.length = L.length := by have := h1.1; omega
  have hv : v.ownBlock = none ∨ v.ownBlock ≠ row := by
    cases hb : v.ownBlock with
    | none => exact .inl rfl
    | some k =>
      refine .inr fun e => ?_
      have := (h1.lt k hb).1
      have := hr k e.symm
      omega
  refine ⟨vs, ListAt.of_owns (n := L.length) (by rw [List.map_id]; exact h1.kept hg hv), hl, fun i => ?_⟩
  obtain ⟨a, cap, e1, h4, h5, h6⟩ := (h2 i).1
  refine ⟨a, cap, e1, h4, h5, fun hp => ?_⟩
  obtain ⟨b, off, rfl, hc⟩ := h6 hp
  have hi : i < vs.length := by
    apply Nat.lt_of_not_le
    intro hle
    rw [List.getD_eq_getElem?_getD (l := L), List.getElem?_eq_none (by omega)] at hp
    simp at hp
  have hbb : base ≤ b := h3 (vs.getD i nilS) (by rw [List.getD_eq_getElem?_getD, List.getElem?_eq_getElem hi]; exact List.getElem_mem hi) b (by rw [e1]; rfl)
  refine ⟨b, off, rfl, fun j hj => ?_⟩
  have hx := hc j hj
  rw [World.cell?_of_block (w := w) (a := ⟨b, off + j, none⟩) (hg.block b (World.block_lt_of_cell? w _ hx) (fun e => by have := hr b e.symm; omega))]
  exact hx
end

theorem MatFresh.mono {α : Type} {f : α → Value} {w w' : World} {te e : TypeId} {base : Nat} {v : Value} {L : List (List α)} (h : MatFresh f te base e w v L) (hb : Below w.heap.size w w') : MatFresh f te base e w' v L := by
  obtain ⟨vs, h1, h2, h3⟩ := h
  exact ⟨vs, owns_kept h1 hb, fun i => (h2 i).mono hb, h3⟩
theorem MatFresh.start {α : Type} {f : α → Value} {te e : TypeId} {base : Nat} (w : World) (hb : base ≤ w.heap.size) : MatFresh f te base e (w.alloc (.cells #[] e)) (.slice (some ⟨w.heap.size, 0, none⟩) 0 0) [] :=
  ⟨[], World.ownsRow_made (base := base) (e := e) (size := 1) w #[] 0 hb (by decide) rfl, fun i => by simpa using ElAt.nil f te base _, fun x hx => by simp at hx⟩
theorem MatFresh.below {α : Type} {f : α → Value} {w : World} {te e : TypeId} {base base' : Nat} {v : Value} {L : List (List α)} (h : MatFresh f te base e w v L) (hb : base' ≤ base) : MatFresh f te base' e w v L := by
  obtain ⟨vs, h1, h2, h3⟩ := h
  refine ⟨vs, ownsRow_base h1 hb, fun i => ⟨(h2 i).1, fun hp b hx => ?_⟩, fun x hx b hxb => Nat.le_trans hb (h3 x hx b hxb)⟩
  rcases (h2 i).2 hp b hx with h4 | h4
  · by_cases hi : i < vs.length
    · have e1 : vs.getD i nilS = vs[i] := by simp [List.getD_eq_getElem?_getD, hi]
      have := h3 _ (List.getElem_mem hi) b (by rw [← e1]; exact hx)
      omega
    · rw [List.getD_eq_getElem?_getD, List.getElem?_eq_none (by omega)] at hx
      cases hx
  · exact .inr h4
/-- What lies from a block number on stays as it reads where what is written lies ahead of it. -/
theorem MatFresh.far {α : Type} {f : α → Value} {w w' : World} {te e : TypeId} {base : Nat} {v : Value} {L : List (List α)} (h : MatFresh f te base e w v L) (hs : ∀ g, base ≤ g → g < w.heap.size → w'.heap[g]? = w.heap[g]?) : MatFresh f te base e w' v L := by
  obtain ⟨vs, h1, h2, h3⟩ := h
  refine ⟨vs, ⟨h1.1, ?_⟩, fun i => ?_, h3⟩
  · rcases h1.2 with h4 | ⟨g, cap, cur, h4, h5, h6, h7⟩
    · exact .inl h4
    · exact .inr ⟨g, cap, cur, h4, h5, by rw [hs g h5 (Array.getElem?_eq_some_iff.1 h6).1]; exact h6, h7⟩
  · obtain ⟨⟨a, cap, ev, k1, k2, k3⟩, k4⟩ := h2 i
    by_cases hp : 0 < (L.getD i []).length
    · obtain ⟨b, off, rfl, hc⟩ := k3 hp
      have hob : (vs.getD i nilS).ownBlock = some b := by rw [ev]; rfl
      have hlt : base ≤ b := by
        by_cases hi : i < vs.length
        · have e1 : vs.getD i nilS = vs[i] := by simp [List.getD_eq_getElem?_getD, hi]
          exact h3 _ (List.getElem_mem hi) b (by rw [← e1]; exact hob)
        · rw [List.getD_eq_getElem?_getD, List.getElem?_eq_none (by omega)] at hob
          cases hob
      have hb := hs b hlt (World.block_lt_of_cell? w _ (hc 0 hp))
      refine ⟨⟨_, cap, ev, k1, k2, fun _ => ⟨b, off, rfl, fun j hj => ?_⟩⟩, fun _ b' hb' => ?_⟩
      · rw [World.cell?_of_block (w := w) (a := ⟨b, off + j, none⟩) hb]
        exact hc j hj
      · rw [hob] at hb'
        cases hb'
        rw [hb]
        exact k4 hp b hob
    · exact ⟨⟨a, cap, ev, k1, k2, fun hp' => absurd hp' hp⟩, fun hp' => absurd hp' hp⟩

end Go.Proofs.YtkhdjjcflbdegaaGreatDoor
end

section
/- packed.Xor, packed.Odd, packed.Pack. -/
namespace Go.Proofs.YtkhdjjcflbdegaaGreatDoor
open Go.RowKit Go.Extern.Stop Go.Stop Go.Extern

theorem ListAt.words {w : World} {v : Value} {ws : List Nat} (h : ListAt wordV w v ws) (n : Nat) (hn : ws.length = n) :
    ∃ a cap, v = .slice a n cap ∧ n ≤ cap ∧ cap ≤ maxLen ∧ (0 < n → ∃ b off, a = some ⟨b, off, none⟩ ∧ ∀ j, j < n → w.cell? ⟨b, off + j, none⟩ = some (.int .u64 ((ws.getD j 0 : Nat) : Int))) := by
  subst hn
  obtain ⟨a, cap, rfl, hc, hm, h⟩ := h
  refine ⟨a, cap, rfl, hc, hm, fun hp => ?_⟩
  obtain ⟨b, off, rfl, hcell⟩ := h hp
  refine ⟨b, off, rfl, fun j hj => ?_⟩
  rw [hcell j hj, List.getD_eq_getElem?_getD, List.getElem?_eq_getElem hj]
  rfl

/-! ### Odd -/
theorem popx_step (S x y a b : Nat) (h : pop S % 2 = a % 2) (hb : b = a + pop (x &&& y)) : pop (S ^^^ (x &&& y)) % 2 = b % 2 := by
  rw [pop_xor]; omega

/-! ### Pack -/
theorem shl_one (b : Nat) (hb : b < 64) : 2 ^ b < 18446744073709551616 := by
  have : 2 ^ b ≤ 2 ^ 63 := Nat.pow_le_pow_right (by decide) (by omega)
  omega

theorem inP_snoc (l : List Int) (c d : Nat) : (inP l d || d == c) = inP (l ++ [(c : Int)]) d := by
  unfold inP
  by_cases h1 : (d : Int) ∈ l
  · rw [decide_eq_true h1, decide_eq_true (List.mem_append.2 (.inl h1))]; rfl
  · by_cases h2 : d = c
    · subst h2; simp
    · have h3 : ¬ (d : Int) ∈ l ++ [(c : Int)] := by simp [h1]; omega
      rw [decide_eq_false h1, decide_eq_false h3]
      simpa using h2

/-- What packed.Pack answers. -/
def packAns (l : List Int) (n : Int) (w' : World) (v E : Value) : Prop :=
  if checkI l n = 0 then E = .nilIface ∧ ∃ ws, ListAt wordV w' v ws ∧ Packs ws (sizeI n).toNat (inP l)
  else v = .slice none 0 0 ∧ Chain w' (checkI l n) [⟨#[112, 97, 99, 107, 101, 100, 46, 80, 97, 99, 107]⟩] E

theorem packAns_one {l : List Int} {n : Int} {w' : World} {E : Value} (h : n < 0 ∨ 4096 < n ∨ outI l n = true) (hc : Chain w' 1 [⟨#[112, 97, 99, 107, 101, 100, 46, 80, 97, 99, 107]⟩] E) : packAns l n w' (.slice none 0 0) E := by
  have e : checkI l n = 1 := by rw [checkI, if_pos h]
  unfold packAns
  rw [e, if_neg (by decide)]
  exact ⟨rfl, hc⟩

set_option maxRecDepth 1000000 in
set_option maxHeartbeats 4000000 in
theorem Pack_any {w : World} (v : Value) (l : List Int) (n : Int) (h : ListAt intV w v l) (hn : -9223372036854775808 ≤ n ∧ n ≤ 9223372036854775807) :
    Calls Tryz.prog 83 #[v, .int .i64 n] w fun e w' => ∃ v' E, e = .returned (.tuple #[v', E]) ∧ packAns l n w' v' E ∧ Below w.heap.size w w' := by
  obtain ⟨i0, hi, hz0, hz1, hz2⟩ := info_parts info_u64
  have hlen := h.len
  have H1 := Lib.hid h
  have HN := Lib.hid hn
  obtain ⟨a1, cap1, rfl, hcap, -, hcell⟩ := h
  have HC := Lib.hid hcell
  clear hcell
  by_cases h0 : n < 0
  · have HD := Lib.hid h0
    go_enter Tryz.func83, Tryz.ntmps83
    go_wp2_with fail
    refine (New_chain _ 1 (by decide) _).mono ?_
    rintro e w1 ⟨E1, rfl, hc1, hb1⟩
    have HC1 := Lib.hid hc1
    have HB1 := Lib.hid hb1
    obtain ⟨u, v, rfl⟩ := hc1.iface
    clear hc1 hb1
    go_wp2
    go_ret2
    exact ⟨_, _, rfl, packAns_one (.inl HD.out) HC1.out, HB1.out⟩
  by_cases h4 : 4096 < n
  · have HD := Lib.hid h4
    go_enter Tryz.func83, Tryz.ntmps83
    go_wp2_with fail
    refine (New_chain _ 1 (by decide) _).mono ?_
    rintro e w1 ⟨E1, rfl, hc1, hb1⟩
    have HC1 := Lib.hid hc1
    have HB1 := Lib.hid hb1
    obtain ⟨u, v, rfl⟩ := hc1.iface
    clear hc1 hb1
    go_wp2
    go_ret2
    exact ⟨_, _, rfl, packAns_one (.inr (.inl HD.out)) HC1.out, HB1.out⟩
  cases ho : outI l n with
  | true =>
    have HD := Lib.hid ho
    clear ho
    go_enter Tryz.func83, Tryz.ntmps83
    go_wp2_with fail
    refine (outside_any _ l n H1.out).mono ?_
    rintro e w1 ⟨rfl, rfl⟩
    rw [HD.out]
    go_wp2_with fail
    refine (New_chain _ 1 (by decide) _).mono ?_
    rintro e w1 ⟨E1, rfl, hc1, hb1⟩
    have HC1 := Lib.hid hc1
    have HB1 := Lib.hid hb1
    obtain ⟨u, v, rfl⟩ := hc1.iface
    clear hc1 hb1
    go_wp2
    go_ret2
    exact ⟨_, _, rfl, packAns_one (.inr (.inr HD.out)) HC1.out, HB1.out⟩
  | false =>
    have HD := Lib.hid ho
    have HIN : Hid (∀ j (hj : j < l.length), 0 ≤ l[j] ∧ l[j] < n) := Lib.hid fun j hj => by
      unfold outI at ho
      rw [List.any_eq_false] at ho
      have := ho _ (List.getElem_mem hj)
      simp at this
      omega
    obtain ⟨K, hK, hK64⟩ := sizeI_nat n
    have HK : Hid ((sizeI n).toNat = K) := Lib.hid (by omega)
    have hnK : n ≤ 64 * (K : Int) := by
      unfold sizeI at hK
      rw [if_neg (by omega)] at hK
      omega
    have HCH : Hid (∀ b, (if l.Nodup then (0 : Int) else 2) = b → checkI l n = b) := Lib.hid fun b e => by rw [checkI, if_neg (by rw [HD.out]; simp; omega)]; exact e
    clear ho
    go_enter Tryz.func83, Tryz.ntmps83
    go_wp2_with fail
    refine (outside_any _ l n H1.out).mono ?_
    rintro e w1 ⟨rfl, rfl⟩
    rw [HD.out]
    go_wp2_with fail
    refine (Size_any n HN.out).mono ?_
    rintro e w1 ⟨rfl, rfl⟩
    rw [hK]
    go_wp2_with (at_make; refine wpList_make_full _ rfl _ _ 79 rfl w.heap.size 163 i0 (.int .u64 0) 1 Tryz.underlying79 hi hz0 hz1 .i64 .i64 _ _ K rfl rfl rfl rfl (by rw [hz2]; omega) (by unfold maxLen; omega) (Nat.le_refl _) ?_; intro w0 hown0 hgrow0; have hb0 := Lib.hid ((Below.refl w.heap.size w).grown hgrow0 (Nat.le_refl _) (fun k hk => by cases hk)); have ho0 := Lib.hid hown0; clear hown0 hgrow0)
    go_loopw [25] (fun i wr => ∃ k : Nat, k ≤ l.length ∧ i = .int .i64 k ∧ (l.take k).Nodup ∧ (∃ vs : List Nat, Packs vs K (inP (l.take k)) ∧ wr.ownsRow w.heap.size 163 1 (.slice (some ⟨w.heap.size, 0, none⟩) K K) K (vs.map wordV)) ∧ Below w.heap.size w wr) (fun i _ => l.length - (intOf i).toNat)
    case atStart => exact ⟨0, Nat.zero_le _, rfl, by simp, ⟨List.replicate K 0, (Packs.zero K).congr fun c _ => by simp [inP], by rw [List.map_replicate]; have := ho0.out; rw [Nat.mul_one] at this; exact toList_madeCells_one (.int .u64 0) K ▸ this⟩, hb0.out⟩
    case round =>
      obtain ⟨k, hk, rfl, hnd, ⟨vs, hvp, hown⟩, hbel⟩ := hrel
      have hsz := hbel.size
      have HO := Lib.hid hown
      have HB := Lib.hid hbel
      have HP := Lib.hid hvp
      have HND := Lib.hid hnd
      by_cases hlt : k < l.length
      · obtain ⟨b, off, rfl, hcc⟩ := HC.out (by omega)
        have hx0 : w.cell? ⟨b, off + k, none⟩ = some (.int .i64 l[k]) := hcc k hlt
        have hx : wr.cell? ⟨b, off + k, none⟩ = some (.int .i64 l[k]) := (hbel.cell (p := ⟨b, off + k, none⟩) (World.block_lt_of_cell? w _ hx0)).trans hx0
        obtain ⟨hc0, hcn⟩ := HIN.out k hlt
        have HX : Hid (∀ y, l[k] = y → y ∈ l.take k → ¬ l.Nodup) := Lib.hid fun y e hy => by subst e; exact not_nodup_of hlt hy
        have HY : Hid (∀ y, l[k] = y → y ∉ l.take k → (l.take (k + 1)).Nodup) := Lib.hid fun y e hy => by
          subst e
          rw [List.take_succ_eq_append_getElem hlt]
          exact nodup_snoc _ _ HND.out hy
        have HT : Hid (∀ y, l[k] = y → l.take (k + 1) = l.take k ++ [y]) := Lib.hid fun y e => by subst e; exact List.take_succ_eq_append_getElem hlt
        clear hcc hx0
        generalize l[k] = y at hx HX HY hc0 hcn HT
        obtain ⟨c, rfl⟩ : ∃ c : Nat, y = (c : Int) := ⟨y.toNat, by omega⟩
        have hcK : c < 64 * K := by omega
        have HH : Hid (hasI vs (c : Int) = decide ((c : Int) ∈ l.take k)) := Lib.hid (by rw [hasI, if_neg (by omega)]; exact hvp.2.2 c hcK)
        have HLA := Lib.hid (ListAt.of_owns (f := wordV) hown)
        have hvl := hvp.1
        have hy3 : wr.cell? ⟨w.heap.size, c / 64, none⟩ = some (.int .u64 ((vs.getD (c / 64) 0 : Nat) : Int)) := by
          rw [hown.cellAt (c / 64) (by omega)]
          have : c / 64 < vs.length := by omega
          simp [List.getD_eq_getElem?_getD, this, wordV]
        have hy4 : wr.frozen? ⟨w.heap.size, c / 64, none⟩ = false := hown.frozenAt (c / 64)
        have hzlt := hvp.2.1.getD (c / 64)
        have hplt := shl_one (c % 64) (by omega)
        have hbo := bits_or_u64_nat (vs.getD (c / 64) 0) (2 ^ (c % 64)) hzlt hplt
        have hsh : IntKind.u64.wrap ((2 : Int) ^ (c % 64)) = ((2 ^ (c % 64) : Nat) : Int) := by
          rw [show ((2 : Int) ^ (c % 64)) = ((2 ^ (c % 64) : Nat) : Int) by simp]
          exact wrap_nat _ hplt
        have HS := Lib.hid (hvp.set c hcK)
        clear hown hbel hvp hnd
        generalize vs.getD (c / 64) 0 = z at hy3 hzlt hbo HS
        generalize 2 ^ (c % 64) = P at hplt hbo HS hsh
        have hc64 : c / 64 < K := by omega
        by_cases hb : (c : Int) ∈ l.take k
        · have HDD := Lib.hid (decide_eq_true hb)
          have HNN := Lib.hid (HX.out _ rfl hb)
          clear hb
          go_wp2_with fail
          refine (Has_any _ vs (c : Int) HLA.out HP.out.2.1 (by omega)).mono ?_
          rintro e w1 ⟨rfl, rfl⟩
          rw [HH.out, HDD.out]
          go_wp2_with fail
          refine (New_chain _ 2 (by decide) _).mono ?_
          rintro e w1 ⟨E1, rfl, hc1, hb1⟩
          have HC1 := Lib.hid hc1
          have HB1 := Lib.hid (HB.out.trans (hb1.mono hsz))
          obtain ⟨u, v, rfl⟩ := hc1.iface
          clear hc1 hb1
          go_wp2
          go_ret2
          exact ⟨_, _, rfl, by
            unfold packAns
            rw [HCH.out 2 (if_neg HNN.out), if_neg (by decide)]
            exact ⟨rfl, HC1.out⟩, HB1.out⟩
        · have HDD := Lib.hid (decide_eq_false hb)
          have HNN := Lib.hid (HY.out _ rfl hb)
          have HTT := Lib.hid (HT.out _ rfl)
          clear hb
          go_wp2_with fail
          refine (Has_any _ vs (c : Int) HLA.out HP.out.2.1 (by omega)).mono ?_
          rintro e w1 ⟨rfl, rfl⟩
          rw [HH.out, HDD.out]
          go_wp2_with fail
          go_region
          go_wp2
          go_roundw
          case rel => exact ⟨k + 1, by omega, by go_num, HNN.out, ⟨vs.set (c / 64) (z ||| P), HS.out.congr fun d _ => by rw [HTT.out]; exact inP_snoc _ _ _, by rw [List.map_set]; exact (HO.out.stored (c / 64) (.int .u64 ((z ||| P : Nat) : Int))).1⟩, (HB.out.setCell (p := ⟨w.heap.size, c / 64, none⟩) (Nat.le_refl _) _).drew⟩
          case measure => simp [intOf]; omega
      · have hk' : k = l.length := by omega
        clear hown hbel hvp hnd
        go_wp2
        go_ret2
        exact ⟨_, _, rfl, by
          have hnd := HND.out
          have hvp := HP.out
          rw [hk', List.take_length] at hnd hvp
          unfold packAns
          rw [HCH.out 0 (if_pos hnd), if_pos rfl]
          exact ⟨rfl, vs, .of_owns (n := K) HO.out, by rw [HK.out]; exact hvp⟩, HB.out⟩
end Go.Proofs.YtkhdjjcflbdegaaGreatDoor
end

section
/- Package packed: Pack of columns that are none out of range, each once: the words lie in new memory. -/
namespace Go.Proofs.YtkhdjjcflbdegaaGreatDoor
open Go.RowKit Go.Extern.Stop Go.Stop Go.Extern

set_option maxRecDepth 1000000 in
set_option maxHeartbeats 4000000 in
theorem Pack_own {w : World} (v : Value) (l : List Int) (n : Int) (h : ListAt intV w v l) (h0 : ¬ n < 0) (h4 : ¬ 4096 < n) (ho : outI l n = false) (hnd0 : l.Nodup) :
    Calls Tryz.prog 83 #[v, .int .i64 n] w fun e w' => e = .returned (.tuple #[.slice (some ⟨w.heap.size, 0, none⟩) (sizeI n).toNat (sizeI n).toNat, .nilIface]) ∧
      ∃ ws, w'.ownsRow w.heap.size 163 1 (.slice (some ⟨w.heap.size, 0, none⟩) (sizeI n).toNat (sizeI n).toNat) (sizeI n).toNat (ws.map wordV) ∧ Packs ws (sizeI n).toNat (inP l) ∧ Below w.heap.size w w' := by
  obtain ⟨i0, hi, hz0, hz1, hz2⟩ := info_parts info_u64
  have hlen := h.len
  have H1 := Lib.hid h
  have HN : Hid (-9223372036854775808 ≤ n ∧ n ≤ 9223372036854775807) := Lib.hid ⟨by omega, by omega⟩
  obtain ⟨a1, cap1, rfl, hcap, -, hcell⟩ := h
  have HC := Lib.hid hcell
  clear hcell
  have HD := Lib.hid ho
  have HIN : Hid (∀ j (hj : j < l.length), 0 ≤ l[j] ∧ l[j] < n) := Lib.hid fun j hj => by
    unfold outI at ho
    rw [List.any_eq_false] at ho
    have := ho _ (List.getElem_mem hj)
    simp at this
    omega
  obtain ⟨K, hK, hK64⟩ := sizeI_nat n
  have HK : Hid ((sizeI n).toNat = K) := Lib.hid (by omega)
  have hnK : n ≤ 64 * (K : Int) := by
    unfold sizeI at hK
    rw [if_neg (by omega)] at hK
    omega
  have HNDL := Lib.hid hnd0
  clear hnd0
  clear ho
  go_enter Tryz.func83, Tryz.ntmps83
  go_wp2_with fail
  refine (outside_any _ l n H1.out).mono ?_
  rintro e w1 ⟨rfl, rfl⟩
  rw [HD.out]
  go_wp2_with fail
  refine (Size_any n HN.out).mono ?_
  rintro e w1 ⟨rfl, rfl⟩
  rw [hK]
  go_wp2_with (at_make; refine wpList_make_full _ rfl _ _ 79 rfl w.heap.size 163 i0 (.int .u64 0) 1 Tryz.underlying79 hi hz0 hz1 .i64 .i64 _ _ K rfl rfl rfl rfl (by rw [hz2]; omega) (by unfold maxLen; omega) (Nat.le_refl _) ?_; intro w0 hown0 hgrow0; have hb0 := Lib.hid ((Below.refl w.heap.size w).grown hgrow0 (Nat.le_refl _) (fun k hk => by cases hk)); have ho0 := Lib.hid hown0; clear hown0 hgrow0)
  go_loopw [25] (fun i wr => ∃ k : Nat, k ≤ l.length ∧ i = .int .i64 k ∧ (l.take k).Nodup ∧ (∃ vs : List Nat, Packs vs K (inP (l.take k)) ∧ wr.ownsRow w.heap.size 163 1 (.slice (some ⟨w.heap.size, 0, none⟩) K K) K (vs.map wordV)) ∧ Below w.heap.size w wr) (fun i _ => l.length - (intOf i).toNat)
  case atStart => exact ⟨0, Nat.zero_le _, rfl, by simp, ⟨List.replicate K 0, (Packs.zero K).congr fun c _ => by simp [inP], by rw [List.map_replicate]; have := ho0.out; rw [Nat.mul_one] at this; exact toList_madeCells_one (.int .u64 0) K ▸ this⟩, hb0.out⟩
  case round =>
    obtain ⟨k, hk, rfl, hnd, ⟨vs, hvp, hown⟩, hbel⟩ := hrel
    have hsz := hbel.size
    have HO := Lib.hid hown
    have HB := Lib.hid hbel
    have HP := Lib.hid hvp
    have HND := Lib.hid hnd
    by_cases hlt : k < l.length
    · obtain ⟨b, off, rfl, hcc⟩ := HC.out (by omega)
      have hx0 : w.cell? ⟨b, off + k, none⟩ = some (.int .i64 l[k]) := hcc k hlt
      have hx : wr.cell? ⟨b, off + k, none⟩ = some (.int .i64 l[k]) := (hbel.cell (p := ⟨b, off + k, none⟩) (World.block_lt_of_cell? w _ hx0)).trans hx0
      obtain ⟨hc0, hcn⟩ := HIN.out k hlt
      have HX : Hid (∀ y, l[k] = y → y ∈ l.take k → ¬ l.Nodup) := Lib.hid fun y e hy => by subst e; exact not_nodup_of hlt hy
      have HY : Hid (∀ y, l[k] = y → y ∉ l.take k → (l.take (k + 1)).Nodup) := Lib.hid fun y e hy => by
        subst e
        rw [List.take_succ_eq_append_getElem hlt]
        exact nodup_snoc _ _ HND.out hy
      have HT : Hid (∀ y, l[k] = y → l.take (k + 1) = l.take k ++ [y]) := Lib.hid fun y e => by subst e; exact List.take_succ_eq_append_getElem hlt
      clear hcc hx0
      generalize l[k] = y at hx HX HY hc0 hcn HT
      obtain ⟨c, rfl⟩ : ∃ c : Nat, y = (c : Int) := ⟨y.toNat, by omega⟩
      have hcK : c < 64 * K := by omega
      have HH : Hid (hasI vs (c : Int) = decide ((c : Int) ∈ l.take k)) := Lib.hid (by rw [hasI, if_neg (by omega)]; exact hvp.2.2 c hcK)
      have HLA := Lib.hid (ListAt.of_owns (f := wordV) hown)
      have hvl := hvp.1
      have hy3 : wr.cell? ⟨w.heap.size, c / 64, none⟩ = some (.int .u64 ((vs.getD (c / 64) 0 : Nat) : Int)) := by
        rw [hown.cellAt (c / 64) (by omega)]
        have : c / 64 < vs.length := by omega
        simp [List.getD_eq_getElem?_getD, this, wordV]
      have hy4 : wr.frozen? ⟨w.heap.size, c / 64, none⟩ = false := hown.frozenAt (c / 64)
      have hzlt := hvp.2.1.getD (c / 64)
      have hplt := shl_one (c % 64) (by omega)
      have hbo := bits_or_u64_nat (vs.getD (c / 64) 0) (2 ^ (c % 64)) hzlt hplt
      have hsh : IntKind.u64.wrap ((2 : Int) ^ (c % 64)) = ((2 ^ (c % 64) : Nat) : Int) := by
        rw [show ((2 : Int) ^ (c % 64)) = ((2 ^ (c % 64) : Nat) : Int) by simp]
        exact wrap_nat _ hplt
      have HS := Lib.hid (hvp.set c hcK)
      clear hown hbel hvp hnd
      generalize vs.getD (c / 64) 0 = z at hy3 hzlt hbo HS
      generalize 2 ^ (c % 64) = P at hplt hbo HS hsh
      have hc64 : c / 64 < K := by omega
      by_cases hb : (c : Int) ∈ l.take k
      · exact absurd HNDL.out (HX.out _ rfl hb)
      · have HDD := Lib.hid (decide_eq_false hb)
        have HNN := Lib.hid (HY.out _ rfl hb)
        have HTT := Lib.hid (HT.out _ rfl)
        clear hb
        go_wp2_with fail
        refine (Has_any _ vs (c : Int) HLA.out HP.out.2.1 (by omega)).mono ?_
        rintro e w1 ⟨rfl, rfl⟩
        rw [HH.out, HDD.out]
        go_wp2_with fail
        go_region
        go_wp2
        go_roundw
        case rel => exact ⟨k + 1, by omega, by go_num, HNN.out, ⟨vs.set (c / 64) (z ||| P), HS.out.congr fun d _ => by rw [HTT.out]; exact inP_snoc _ _ _, by rw [List.map_set]; exact (HO.out.stored (c / 64) (.int .u64 ((z ||| P : Nat) : Int))).1⟩, (HB.out.setCell (p := ⟨w.heap.size, c / 64, none⟩) (Nat.le_refl _) _).drew⟩
        case measure => simp [intOf]; omega
    · have hk' : k = l.length := by omega
      clear hown hbel hvp hnd
      go_wp2
      go_ret2
      refine ⟨by rw [HK.out]; rfl, vs, by rw [HK.out]; exact HO.out, ?_, HB.out⟩
      have := HP.out
      rw [hk', List.take_length] at this
      rw [HK.out]
      exact this
end Go.Proofs.YtkhdjjcflbdegaaGreatDoor
end
