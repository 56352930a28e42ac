/- The document's bare: a packet with what its kind has alone (layer 16). -/
import Derived.Test.YtmihpbdgilmdiaaDoorWrStore
import Derived.Deep.Cut
namespace Go.Proofs.YtmihpbdgilmdiaaDoor
open Go.RowKit Go.Extern.Stop Go.Stop Go.Extern

theorem wr_row1 {P : Program} {fn : Func} {p : Tmp} {ty : TypeId} (h : fn.results = #[.cell p ty]) (tmps : Array Value) (w : World) (g : Nat) (tt : TypeId) (cs : Array Value) (fr : Nat × Nat) (d : TypeDesc)
    (hp : tmps.getD p undef = .pointer (some ⟨g, 0, none⟩)) (hg : w.heap[g]? = some (.cells cs tt fr))
    (hu : P.underlying ty = some d) (hd : (match d with | .struct _ | .array _ _ => true | _ => false) = true) (hi : (P.info? ty).map (·.size) = some cs.size) :
    (results fn tmps).run P w = .ok (.agg cs) w := by
  have hp' : tmps[p]?.getD undef = .pointer (some ⟨g, 0, none⟩) := by simpa using hp
  simp [results, h, hp', asAddr, run_loadVar_row w g tt ty cs fr d hg hu hd hi]

theorem heap_mid (W : World) (X Y : Obj) : ((W.alloc X).alloc Y).heap[W.heap.size]? = some X :=
  (((Below.refl (W.alloc X).heap.size (W.alloc X)).alloc (Nat.le_refl _) Y).block W.heap.size (by rw [World.size_alloc]; omega)).trans (heap_alloc_new W X)

def bareP (p : Pkt) : Pkt := if p.kind = 1 then ⟨p.kind, p.session, p.layer, p.tick, p.burst, p.sync, p.many, p.place, p.block, p.esi, p.data, 0, 0, 0, 0, 0, 0, 0, 0, 0⟩ else ⟨p.kind, p.session, p.layer, p.tick, false, 0, 0, 0, 0, 0, [], p.size, p.symbol, p.blocks, p.long, p.short, p.layers, p.esis, p.base, p.length⟩

def bareD (p : Pkt) (D : Value) : Value := if p.kind = 1 then D else nilS
theorem bare_at {w : World} {p : Pkt} {D : Value} (hD : ListAt byteV w D p.data) : ListAt byteV w (bareD p D) (bareP p).data := by
  unfold bareD bareP
  split
  · exact hD
  · exact ListAt.nil _ _

set_option maxRecDepth 1000000 in
set_option maxHeartbeats 4000000 in
theorem rBare_any {w : World} (p : Pkt) (D : Value) (hD : ListAt byteV w D p.data) : Calls Tryd.prog 22 #[pktV p D] w fun e w' => e = .returned (pktV (bareP p) (bareD p D)) ∧ Below w.heap.size w w' := by
  have HD := Lib.hid hD
  obtain ⟨a, cap, rfl, -, -, -⟩ := hD
  obtain ⟨W1, hW1, hb1, hx1⟩ := pkt_laid w p (.slice a p.data.length cap)
  have hsz : W1.heap.size = w.heap.size + 1 := by rw [hW1]; exact World.size_alloc ..
  have HW := Lib.hid hW1
  have HSZ := Lib.hid hsz
  have HB := Lib.hid hb1
  obtain ⟨a0, a1, a2, a3, a4, a5, a6, a7, a8, a9, a10, a11, a12, a13, a14, a15, a16, a17, a18, a19⟩ := hx1.cells
  have HBB : Hid (∀ X Y : Obj, Below w.heap.size w ((W1.alloc X).alloc Y)) := Lib.hid fun X Y => (HB.out.alloc HB.out.size X).alloc (by rw [World.size_alloc]; have := HB.out.size; omega) Y
  have F1 : ∀ (X : Obj) (i : Nat), (W1.alloc X).cell? ⟨w.heap.size, i, none⟩ = W1.cell? ⟨w.heap.size, i, none⟩ := fun X i => ((Below.refl W1.heap.size W1).alloc (Nat.le_refl _) X).cell (p := ⟨w.heap.size, i, none⟩) hx1.lt
  have F2 : ∀ (X Y : Obj) (i : Nat), ((W1.alloc X).alloc Y).cell? ⟨w.heap.size, i, none⟩ = W1.cell? ⟨w.heap.size, i, none⟩ := fun X Y i => (((Below.refl W1.heap.size W1).alloc (Nat.le_refl _) X).alloc (by rw [World.size_alloc]; omega) Y).cell (p := ⟨w.heap.size, i, none⟩) hx1.lt
  unfold pktC at HW
  unfold pktV pktC
  clear hW1 hb1 hx1 hsz
  by_cases hk : p.kind = 1
  · have e1 : (p.kind == 1) = true := by simp [hk]
    have HBD : Hid (bareP p = ⟨p.kind, p.session, p.layer, p.tick, p.burst, p.sync, p.many, p.place, p.block, p.esi, p.data, 0, 0, 0, 0, 0, 0, 0, 0, 0⟩) := Lib.hid (by unfold bareP; rw [if_pos hk])
    have HBV : Hid (bareD p (.slice a p.data.length cap) = .slice a p.data.length cap) := Lib.hid (by unfold bareD; rw [if_pos hk])
    clear hk
    go_enter Tryd.func22, Tryd.ntmps22
    go_upto_region 1 with fail
    rw [← HW.out, ← HSZ.out]
    go_wp2_with (first
      | ((with_reducible show wpList _ _ _ (⟨some 12, _, _, _, _, _⟩ :: _) _ _); refine wpList_built rfl 26 _ rfl #[.int .i64 p.kind, .int .i64 p.session, .int .i64 p.layer, .int .i64 p.tick, .bool false, .int .i64 0, .int .i64 0, .int .i64 0, .int .i64 0, .int .i64 0, .slice none 0 0, .int .i64 0, .int .i64 0, .int .i64 0, .int .i64 0, .int .i64 0, .int .i64 0, .int .i64 0, .int .i64 0, .int .i64 0] (by kernel_rfl) ?_)
      | ((with_reducible show wpList _ _ _ (⟨none, _, _, _, _, _⟩ :: _) _ _); refine wpList_storeRow1 _ rfl 26 (.tmp 3) (.tmp 12) rfl rfl rfl (by kernel_rfl) (by rfl) (by kernel_rfl) ?_)
      | ((with_reducible show wpList _ _ _ (⟨some 37, _, _, _, _, _⟩ :: _) _ _); refine wpList_loadRow1 rfl 26 (.tmp 3) rfl rfl _ Tryd.underlying26 rfl (by kernel_rfl) ?_)
      | ((with_reducible show wpList _ _ _ (⟨none, _, _, _, _, _⟩ :: _) _ _); refine wpList_storeRowM _ rfl 26 (.tmp 2) (.tmp 37) rfl rfl rfl (by kernel_rfl) (by rfl) (by kernel_rfl) ?_))
    refine bodyPost_ret (wr_row1 rfl _ _ W1.heap.size 26 _ (0, 0) _ rfl (heap_mid W1 _ _) Tryd.underlying26 rfl (by kernel_rfl)) rfl ?_
    exact ⟨by rw [HBD.out, HBV.out], HBB.out _ _⟩
  · have e1 : (p.kind == 1) = false := by simp [hk]
    have HBD : Hid (bareP p = ⟨p.kind, p.session, p.layer, p.tick, false, 0, 0, 0, 0, 0, [], p.size, p.symbol, p.blocks, p.long, p.short, p.layers, p.esis, p.base, p.length⟩) := Lib.hid (by unfold bareP; rw [if_neg hk])
    have HBV : Hid (bareD p (.slice a p.data.length cap) = nilS) := Lib.hid (by unfold bareD; rw [if_neg hk])
    clear hk
    go_enter Tryd.func22, Tryd.ntmps22
    go_upto_region 1 with fail
    rw [← HW.out, ← HSZ.out]
    go_wp2_with (first
      | ((with_reducible show wpList _ _ _ (⟨some 12, _, _, _, _, _⟩ :: _) _ _); refine wpList_built rfl 26 _ rfl #[.int .i64 p.kind, .int .i64 p.session, .int .i64 p.layer, .int .i64 p.tick, .bool false, .int .i64 0, .int .i64 0, .int .i64 0, .int .i64 0, .int .i64 0, .slice none 0 0, .int .i64 0, .int .i64 0, .int .i64 0, .int .i64 0, .int .i64 0, .int .i64 0, .int .i64 0, .int .i64 0, .int .i64 0] (by kernel_rfl) ?_)
      | ((with_reducible show wpList _ _ _ (⟨none, _, _, _, _, _⟩ :: _) _ _); refine wpList_storeRow1 _ rfl 26 (.tmp 3) (.tmp 12) rfl rfl rfl (by kernel_rfl) (by rfl) (by kernel_rfl) ?_)
      | ((with_reducible show wpList _ _ _ (⟨some 53, _, _, _, _, _⟩ :: _) _ _); refine wpList_loadRow1 rfl 26 (.tmp 3) rfl rfl _ Tryd.underlying26 rfl (by kernel_rfl) ?_)
      | ((with_reducible show wpList _ _ _ (⟨none, _, _, _, _, _⟩ :: _) _ _); refine wpList_storeRowM _ rfl 26 (.tmp 2) (.tmp 53) rfl rfl rfl (by kernel_rfl) (by rfl) (by kernel_rfl) ?_))
    refine bodyPost_ret (wr_row1 rfl _ _ W1.heap.size 26 _ (0, 0) _ rfl (heap_mid W1 _ _) Tryd.underlying26 rfl (by kernel_rfl)) rfl ?_
    exact ⟨by rw [HBD.out, HBV.out], HBB.out _ _⟩
end Go.Proofs.YtmihpbdgilmdiaaDoor
