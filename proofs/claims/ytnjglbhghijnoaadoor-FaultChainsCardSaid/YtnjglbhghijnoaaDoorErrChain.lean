/- Slices of strings that are only read; fault.Chain: all calls of a chain, from the outermost on. -/
import Derived.Test.YtnjglbhghijnoaaDoorErrFault
import Derived.Deep.LoopGhost
import Derived.WalkSpells
import Derived.Deep.Strs
namespace Go.Proofs.YtnjglbhghijnoaaDoor
open Go.RowKit Go.Extern.Stop Go.Stop Go.Extern

/-- A slice value that reads as the strings ss. -/
def StrsAt (w : World) (v : Value) (ss : List ByteArray) : Prop :=
  ∃ a cap, v = .slice a ss.length cap ∧ ss.length ≤ cap ∧ (0 < ss.length → ∃ b off, a = some ⟨b, off, none⟩ ∧ ∀ j (h : j < ss.length), w.cell? ⟨b, off + j, none⟩ = some (.string ss[j]))

theorem StrsAt.mono {w w' : World} {v : Value} {ss : List ByteArray} (h : StrsAt w v ss) (hb : Below w.heap.size w w') : StrsAt w' v ss := by
  obtain ⟨a, cap, rfl, hc, h⟩ := h
  refine ⟨a, cap, rfl, hc, fun hp => ?_⟩
  obtain ⟨b, off, rfl, hcell⟩ := h hp
  refine ⟨b, off, rfl, fun j hj => ?_⟩
  have hx := hcell j hj
  rw [hb.cell (p := ⟨b, off + j, none⟩) (World.block_lt_of_cell? w _ hx)]
  exact hx

theorem StrsAt.of_owns {w : World} {base n : Nat} {e : TypeId} {v : Value} {ss : List ByteArray} (h : w.ownsRow base e 1 v n (ss.map Value.string)) : StrsAt w v ss := by
  have hl := h.1
  simp at hl
  subst hl
  rcases h.2 with ⟨rfl, h0⟩ | ⟨g, cap, cur, rfl, hbg, hh, hc, hm, hs, htk⟩
  · exact ⟨none, 0, by rw [h0], by omega, fun hp => by omega⟩
  · refine ⟨_, _, rfl, hc, fun hp => ⟨g, 0, rfl, fun j hj => ?_⟩⟩
    rw [World.ownsRow.cellAt h (0 + j) (by omega)]
    simp [hj]

theorem Tryd.infoStr : (Tryd.prog.info? 9).map (fun i => (i.zero, i.size, i.bytes)) = some (some (.string ⟨#[]⟩), 1, 16) := by kernel_rfl

/-- What is left of a chain: a pointer to a fault, or nil. -/
def Rest (w : World) (n : Int) (l : List ByteArray) (v : Value) : Prop :=
  (l = [] ∧ v = .pointer none) ∨ (∃ b c E l', l = c :: l' ∧ v = .pointer (some ⟨b, 0, none⟩) ∧ w.cell? ⟨b, 0, none⟩ = some (.string c) ∧ w.cell? ⟨b, 1, none⟩ = some E ∧ Chain w n l' E)

theorem Rest.mono {w w' : World} {n : Int} {v : Value} {l : List ByteArray} (h : Rest w n l v) (hb : Below w.heap.size w w') : Rest w' n l v := by
  rcases h with h | ⟨b, c, E, l', h1, h2, h3, h4, h5⟩
  · exact .inl h
  · have hlt : b < w.heap.size := World.block_lt_of_cell? w ⟨b, 0, none⟩ h3
    exact .inr ⟨b, c, E, l', h1, h2, (hb.cell (p := ⟨b, 0, none⟩) hlt).trans h3, (hb.cell (p := ⟨b, 1, none⟩) hlt).trans h4, h5.mono hb⟩

/-- first of a chain that lies in an older world. -/
theorem first_chain {w0 w : World} (n : Int) (E : Value) (l : List ByteArray) (h : Chain w0 n l E) (hg : Laid w) :
    Calls Tryd.prog 24 #[E] w fun e w' => ∃ v, e = .returned v ∧ Rest w0 n l v ∧ Below w.heap.size w w' := by
  cases h with
  | leaf =>
    refine (first_leaf n hg).mono ?_
    rintro e w' ⟨rfl, hb⟩
    exact ⟨_, rfl, .inl ⟨rfl, rfl⟩, hb⟩
  | wrap b c E l hc he h1 =>
    refine (first_fault ⟨b, 0, none⟩ hg).mono ?_
    rintro e w' ⟨rfl, hb⟩
    exact ⟨_, rfl, .inr ⟨b, c, E, l, rfl, rfl, hc, he, h1⟩, hb⟩

/-- What the call owns stays owned where nothing old has turned. -/
theorem owns_below {w w' : World} {base : Nat} {e : TypeId} {size : Nat} {v : Value} {n : Nat} {xs : List Value} (h : w.ownsRow base e size v n xs) (hb : Below w.heap.size w w') : w'.ownsRow base e size v n xs := by
  refine ⟨h.1, ?_⟩
  rcases h.2 with hn | ⟨g, cap, cur, rfl, hbg, hgg, rest⟩
  · exact .inl hn
  · exact .inr ⟨g, cap, cur, rfl, hbg, by rw [hb.block g (Array.getElem?_eq_some_iff.1 hgg).1]; exact hgg, rest⟩

theorem Chain_nil (w : World) : Calls Tryd.prog 16 #[.nilIface] w fun e w' => e = .returned (.slice none 0 0) ∧ Below w.heap.size w w' := by
  go_enter Tryd.func16, Tryd.ntmps16
  go_wp2_with fail
  refine (first_nil _).mono ?_
  rintro e w' ⟨rfl, hb⟩
  have HB := Lib.hid hb
  clear hb
  go_wp2
  refine wp_loop_rounds 1 ?_
  rw [rounds_succ]
  go_wp2
  go_ret
  exact ⟨rfl, HB.out⟩

def ChainRel (w : World) (n : Int) (l : List ByteArray) (gk : Nat) (v f : Value) (wr : World) : Prop :=
  ∃ done rest, l = done ++ rest ∧ gk = rest.length ∧ wr.ownsRow w.heap.size 9 1 v done.length (done.map Value.string) ∧ Rest w n rest f ∧ Below w.heap.size w wr

set_option maxRecDepth 1000000 in
set_option maxHeartbeats 1000000 in
theorem Chain_chain {w : World} (n : Int) (E : Value) (l : List ByteArray) (h : Chain w n l E) (hl : l.length ≤ 100) (hg : Laid w) :
    Calls Tryd.prog 16 #[E] w fun e w' => ∃ v, e = .returned v ∧ StrsAt w' v l ∧ Below w.heap.size w w' := by
  obtain ⟨i0, hi, hz0, hz1, hz2⟩ := info_parts Tryd.infoStr
  obtain ⟨u, v, rfl⟩ := h.iface
  have HC := Lib.hid h
  have HG := Lib.hid hg
  clear h hg
  go_enter Tryd.func16, Tryd.ntmps16
  go_wp2_with fail
  refine (first_chain n _ l HC.out HG.out).mono ?_
  rintro e w1 ⟨f, rfl, hr1, hb1⟩
  have HR := Lib.hid hr1
  have HB := Lib.hid hb1
  clear hr1 hb1
  go_wp2
  go_loopg [3, 4] (l.length) (fun gk v f wr => ChainRel w n l gk v f wr)
  case atStart => exact ⟨[], l, rfl, rfl, World.ownsRow_nil _ _ _ _, HR.out, HB.out⟩
  case round =>
    obtain ⟨done, rest, hld, rfl, hown, hrest, hbel⟩ := hrel
    rcases hrest with ⟨rfl, rfl⟩ | ⟨b, c, E1, l1, rfl, rfl, hc0w, hc1w, hch⟩
    · have HO := Lib.hid hown
      have HBel := Lib.hid hbel
      have HL := Lib.hid hld
      clear hown hbel hld
      go_wp2
      go_ret
      have hh := HL.out
      simp at hh
      subst hh
      exact ⟨_, rfl, .of_owns HO.out, HBel.out⟩
    · have HL := Lib.hid hld
      have hlen : done.length + 1 ≤ 100 := by rw [hld] at hl; simp at hl; omega
      have hbl : b < w.heap.size := World.block_lt_of_cell? w ⟨b, 0, none⟩ hc0w
      have hsz : w.heap.size ≤ wr.heap.size := hbel.size
      have hc0 : wr.cell? ⟨b, 0, none⟩ = some (.string c) := (hbel.cell (p := ⟨b, 0, none⟩) hbl).trans hc0w
      have HO := Lib.hid (hown.alloc (.cells #[.string c] 9))
      have HBel := Lib.hid hbel
      obtain ⟨u1, v1, rfl⟩ := hch.iface
      have HCh := Lib.hid hch
      have HC1 := Lib.hid hc1w
      clear hown hbel hld hch hc0w hc1w
      go_wp2_with (at_builtin; refine wpList_append_own _ rfl (.tmp 14) (.tmp 19) 29 rfl w.heap.size 9 i0 (.string ⟨#[]⟩) 1 16 Tryd.underlying29 hi hz0 hz1 hz2 rfl (by decide) u3 done.length (done.map Value.string) rfl HO.out ⟨wr.heap.size, 0, none⟩ 1 1 [.string c] rfl rfl (cell_one_new _ _ _) (fun x hx => by simp at hx; subst hx; rfl) (by unfold maxLen; omega) (by omega) (by simp; omega) ?_; intro v2 w2 hown1 hgrow1 _; have hb2 := Lib.hid ((HBel.out.alloc hsz _).grown hgrow1 (by simp; omega) (fun k hk => (HO.out.lt k hk).1)); have hc1 := (hb2.out.cell (p := ⟨b, 1, none⟩) hbl).trans HC1.out; have ho2 := Lib.hid hown1; clear hown1 hgrow1)
      refine (first_chain n _ l1 HCh.out (HG.out.mono hb2.out)).mono ?_
      rintro e w3 ⟨f3, rfl, hr3, hb3⟩
      have HR3 := Lib.hid hr3
      have HB3 := Lib.hid hb3
      clear hr3 hb3
      go_wp2
      go_roundg (l1.length)
      case rel => exact ⟨done ++ [c], l1, by rw [HL.out]; simp, rfl, by simpa using owns_below ho2.out HB3.out, HR3.out, hb2.out.trans (HB3.out.mono hb2.out.size)⟩
      case measure => simp
end Go.Proofs.YtnjglbhghijnoaaDoor
