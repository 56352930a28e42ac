/- A packet that came in. (Made by genwropen.py.) -/
import Derived.Test.YtmihpbdgilmdiaaKit
import Derived.Test.YtmihpbdgilmdiaaWrBox
import Derived.Test.YtmihpbdgilmdiaaFldOpen
namespace Go.Proofs.Ytmihpbdgilmdiaa
open Go.RowKit Go.Extern.Stop Go.Stop Go.Extern Go.Joins Go.Deep Go.WideShapes Go.ChangeShapes Go.ChangeAt

section
variable {H : Type} {enc : TypeId × Value → H}
theorem at_field {P : Program} {W : World} {fs : Array Field} {xs : List (DataW H × List MemPlace)} {cs : List Value} {n : Nat} (hff : ∀ (i : Nat) (f : Field), fs[i]? = some f → DataW.trod enc P W 0 (fun _ => true) true n f.type ((cs.drop f.offset).take (P.cellsOf f.type)) = xs[i]?)
    (i : Nat) (f : Field) (hf : fs[i]? = some f) {k : Nat} (hk : P.cellsOf f.type = k) {y : DataW H × List MemPlace} (hy : xs[i]? = some y) : DataW.trod enc P W 0 (fun _ => true) true n f.type ((cs.drop f.offset).take k) = some y := by rw [← hk, hff i f hf, hy]
theorem int_in {u : TypeId} {W : World} {n : Nat} {c : Value} {y : DataW H × List MemPlace} (hu : Try.prog.underlying u = some (.int .i64)) (hg : DataW.trod enc Try.prog W 0 (fun _ => true) true n u [c] = some y) : ∃ m : Int, c = .int .i64 m ∧ I64 m := by
  obtain ⟨m, hm, -, hw⟩ := DataW.trod_int hu hg
  exact ⟨m, by simpa using hm, by simpa [Lit.wf, IntKind.min, IntKind.max, IntKind.signed, IntKind.bits] using hw⟩

set_option maxRecDepth 100000 in
theorem packet_open {b0 : Nat} {v : Value} {d : DataW H} {ps : List MemPlace} {W : World}
    (hv : Value.okWide Try.prog W .any b0 26 v) (h : DataW.Trod enc Try.prog W 0 (fun _ => true) true 26 v d ps) :
    ∃ (p : Pkt) (D : Value), v = pktV p D ∧ ListAt byteV W D p.data ∧ FitsP p ∧ ∀ bound : Nat, (d.weights Try.prog 26).all (· ≤ bound) = true → p.data.length * Try.prog.bytesOf 5 ≤ bound := by
  have k1 : Try.prog.cellsOf 3 = 1 := by kernel_rfl
  have k2 : Try.prog.cellsOf 4 = 1 := by kernel_rfl
  have k3 : Try.prog.cellsOf 22 = 1 := by kernel_rfl
  have k4 : Try.prog.cellsOf 24 = 5 := by kernel_rfl
  have k5 : Try.prog.cellsOf 5 = 1 := by kernel_rfl
  have hC : Try.prog.cellsOf 26 = 20 := by kernel_rfl
  obtain ⟨cs, rfl, hsz⟩ := okWide_struct Try.underlying26 hv
  obtain ⟨fuel, hf⟩ := h
  obtain ⟨xs, n, _, hx, hl, hlen, hff⟩ := DataW.trod_struct Try.underlying26 hf
  obtain ⟨l⟩ := cs
  have hl20 : l.length = 20 := hsz.trans hC
  clear hv hf hl hsz
  match l, hl20 with
  | [c0, c1, c2, c3, c4, c5, c6, c7, c8, c9, c10, c11, c12, c13, c14, c15, c16, c17, c18, c19], _ =>
    match xs, hlen with
    | [y0, y1, y2, y3, y4, y5, y6, y7, y8, y9, y10, y11, y12, y13, y14, y15], _ =>
      have g0 : DataW.trod enc Try.prog W 0 (fun _ => true) true n 3 [c0] = some y0 := by
        have := at_field hff 0 _ rfl k1 rfl
        exact this
      have g1 : DataW.trod enc Try.prog W 0 (fun _ => true) true n 3 [c1] = some y1 := by
        have := at_field hff 1 _ rfl k1 rfl
        exact this
      have g2 : DataW.trod enc Try.prog W 0 (fun _ => true) true n 3 [c2] = some y2 := by
        have := at_field hff 2 _ rfl k1 rfl
        exact this
      have g3 : DataW.trod enc Try.prog W 0 (fun _ => true) true n 3 [c3] = some y3 := by
        have := at_field hff 3 _ rfl k1 rfl
        exact this
      have g5 : DataW.trod enc Try.prog W 0 (fun _ => true) true n 3 [c5] = some y5 := by
        have := at_field hff 5 _ rfl k1 rfl
        exact this
      have g6 : DataW.trod enc Try.prog W 0 (fun _ => true) true n 3 [c6] = some y6 := by
        have := at_field hff 6 _ rfl k1 rfl
        exact this
      have g7 : DataW.trod enc Try.prog W 0 (fun _ => true) true n 3 [c7] = some y7 := by
        have := at_field hff 7 _ rfl k1 rfl
        exact this
      have g8 : DataW.trod enc Try.prog W 0 (fun _ => true) true n 3 [c8] = some y8 := by
        have := at_field hff 8 _ rfl k1 rfl
        exact this
      have g9 : DataW.trod enc Try.prog W 0 (fun _ => true) true n 3 [c9] = some y9 := by
        have := at_field hff 9 _ rfl k1 rfl
        exact this
      have g16 : DataW.trod enc Try.prog W 0 (fun _ => true) true n 3 [c16] = some y12 := by
        have := at_field hff 12 _ rfl k1 rfl
        exact this
      have g17 : DataW.trod enc Try.prog W 0 (fun _ => true) true n 3 [c17] = some y13 := by
        have := at_field hff 13 _ rfl k1 rfl
        exact this
      have g18 : DataW.trod enc Try.prog W 0 (fun _ => true) true n 3 [c18] = some y14 := by
        have := at_field hff 14 _ rfl k1 rfl
        exact this
      have g19 : DataW.trod enc Try.prog W 0 (fun _ => true) true n 3 [c19] = some y15 := by
        have := at_field hff 15 _ rfl k1 rfl
        exact this
      have g4 : DataW.trod enc Try.prog W 0 (fun _ => true) true n 4 [c4] = some y4 := by
        have := at_field hff 4 _ rfl k2 rfl
        exact this
      have g10 : DataW.trod enc Try.prog W 0 (fun _ => true) true n 22 [c10] = some y10 := by
        have := at_field hff 10 _ rfl k3 rfl
        exact this
      have gp : DataW.trod enc Try.prog W 0 (fun _ => true) true n 24 [c11, c12, c13, c14, c15] = some y11 := by
        have := at_field hff 11 _ rfl k4 rfl
        exact this
      obtain ⟨zs, m, _, -, -, hzl, hpp⟩ := DataW.trod_struct Try.underlying24 gp
      clear hff gp
      match zs, hzl with
      | [z0, z1, z2, z3, z4], _ =>
        have g11 : DataW.trod enc Try.prog W 0 (fun _ => true) true m 3 [c11] = some z0 := by
          have := at_field hpp 0 _ rfl k1 rfl
          exact this
        have g12 : DataW.trod enc Try.prog W 0 (fun _ => true) true m 3 [c12] = some z1 := by
          have := at_field hpp 1 _ rfl k1 rfl
          exact this
        have g13 : DataW.trod enc Try.prog W 0 (fun _ => true) true m 3 [c13] = some z2 := by
          have := at_field hpp 2 _ rfl k1 rfl
          exact this
        have g14 : DataW.trod enc Try.prog W 0 (fun _ => true) true m 3 [c14] = some z3 := by
          have := at_field hpp 3 _ rfl k1 rfl
          exact this
        have g15 : DataW.trod enc Try.prog W 0 (fun _ => true) true m 3 [c15] = some z4 := by
          have := at_field hpp 4 _ rfl k1 rfl
          exact this
        clear hpp
        obtain ⟨m0, rfl, w0⟩ := int_in Try.underlying3 g0
        obtain ⟨m1, rfl, w1⟩ := int_in Try.underlying3 g1
        obtain ⟨m2, rfl, w2⟩ := int_in Try.underlying3 g2
        obtain ⟨m3, rfl, w3⟩ := int_in Try.underlying3 g3
        obtain ⟨m5, rfl, w5⟩ := int_in Try.underlying3 g5
        obtain ⟨m6, rfl, w6⟩ := int_in Try.underlying3 g6
        obtain ⟨m7, rfl, w7⟩ := int_in Try.underlying3 g7
        obtain ⟨m8, rfl, w8⟩ := int_in Try.underlying3 g8
        obtain ⟨m9, rfl, w9⟩ := int_in Try.underlying3 g9
        obtain ⟨m16, rfl, w16⟩ := int_in Try.underlying3 g16
        obtain ⟨m17, rfl, w17⟩ := int_in Try.underlying3 g17
        obtain ⟨m18, rfl, w18⟩ := int_in Try.underlying3 g18
        obtain ⟨m19, rfl, w19⟩ := int_in Try.underlying3 g19
        obtain ⟨m11, rfl, w11⟩ := int_in Try.underlying3 g11
        obtain ⟨m12, rfl, w12⟩ := int_in Try.underlying3 g12
        obtain ⟨m13, rfl, w13⟩ := int_in Try.underlying3 g13
        obtain ⟨m14, rfl, w14⟩ := int_in Try.underlying3 g14
        obtain ⟨m15, rfl, w15⟩ := int_in Try.underlying3 g15
        obtain ⟨bb, hbb, -⟩ := DataW.trod_bool Try.underlying4 g4
        obtain rfl : c4 = .bool bb := by simpa using hbb
        obtain ⟨s1, t1⟩ := fieldInts Try.underlying22 Try.underlying5 k5 g10
        obtain ⟨q, hl1, hl2, hl3, -⟩ := bytes_openF Try.underlying22 Try.underlying5 k5 s1 t1
        refine ⟨⟨m0, m1, m2, m3, bb, m5, m6, m7, m8, m9, q, m11, m12, m13, m14, m15, m16, m17, m18, m19⟩, c10, rfl, hl1, ⟨w0, w1, w2, w3, w5, w6, w7, w8, w9, w11, w12, w13, w14, w15, w16, w17, w18, w19, hl2⟩, fun bound hw => hl3 bound ?_⟩
        simp only [Prod.mk.injEq] at hx
        rw [hx.1, List.all_eq_true] at hw
        refine List.all_eq_true.2 fun x hx' => hw x ?_
        simp only [DataW.weights, Try.underlying26]
        exact DataW.weights_mem_each (j := 10) (t := 22) (d := y10.1) rfl rfl x hx'
end
end Go.Proofs.Ytmihpbdgilmdiaa
