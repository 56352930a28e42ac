/- The document's Add, Take (layer 15). -/
import Derived.Test.YtccnkfblhkncoaaCkR
import Derived.Deep.RegionHeld3
import Derived.Deep.RegionLaw
namespace Go.Proofs.Ytccnkfblhkncoaa
open Go.RowKit Go.Extern.Stop Go.Stop Go.Extern

theorem le4_octets (n : Nat) : Octets (le4 n) := fun x hx => by
  simp [le4] at hx
  rcases hx with rfl | rfl | rfl | rfl <;> omega
theorem le4_length (n : Nat) : (le4 n).length = 4 := rfl

theorem four_new (w : World) (a b c d : Value) (e : TypeId) : ListAt id (w.alloc (.cells #[a, b, c, d] e)) (.slice (some ⟨w.heap.size, 0, none⟩) 4 4) [a, b, c, d] :=
  ListAt.of_owns (f := id) (l := [a, b, c, d]) (own_of_heap (base := 0) (n := 4) (g := w.heap.size) (e := e) (xs := [a, b, c, d].map id) (Nat.zero_le _) rfl (by decide) (heap_alloc_new w _))

set_option maxRecDepth 1000000 in
set_option maxHeartbeats 4000000 in
theorem ckAdd_any {w : World} (v : Value) (l : List Nat) (h : ListAt byteV w v l) (ho : Octets l) (hR : l.length ≤ 140737488351232) :
    Calls Try.prog 10 #[v] w fun e w' => ∃ v', e = .returned v' ∧ w'.ownsRow w.heap.size 5 1 v' (l.length + 4) ((l ++ le4 (crcSum l)).map byteV) ∧ Below w.heap.size w w' := by
  obtain ⟨j0, hj0, jz0, jz1, jz2⟩ := info_parts info_u8
  have HS := Lib.hid (ckSum_any v l h ho)
  have HL := Lib.hid h
  obtain ⟨a, cap, rfl, -, -, -⟩ := h
  have hn := crcSum_lt l
  have HLE : Hid (∀ n, n = crcSum l → le4 (crcSum l) = [n % 256, n / 256 % 256, n / 65536 % 256, n / 16777216 % 256]) := Lib.hid fun n e => by rw [e]; rfl
  generalize crcSum l = n at *
  have HLE' := HLE.out n rfl
  go_enter Try.func10, Try.ntmps10
  go_wp2_with fail
  refine HS.out.mono ?_
  rintro e w1 ⟨rfl, hb1⟩
  have HB1 := Lib.hid hb1
  have hsz := hb1.size
  have HOS := Lib.hid (World.ownsRow_made (base := w.heap.size) (e := 5) (size := 1) w1 #[] 0 hsz (by decide) rfl)
  have HB2 := Lib.hid (hb1.alloc hsz (.cells #[] 5))
  have HL2 := Lib.hid (HL.out.mono HB2.out)
  have n0 : n % 256 ≤ 255 := by omega
  have n1 : n / 256 % 256 ≤ 255 := by omega
  have n2 : n / 65536 % 256 ≤ 255 := by omega
  have n3 : n / 16777216 ≤ 255 := by omega
  clear hb1
  go_wp2_with (first
    | ((with_reducible show wpList _ _ _ (⟨some 9, _, _, _, _, _⟩ :: _) _ _); refine wpList_append_of _ rfl (.tmp 7) (.tmp 8) 23 rfl w.heap.size 5 j0 (.int .u8 0) 1 Try.underlying23 hj0 jz0 jz1 jz2 rfl (.slice (some ⟨w1.heap.size, 0, none⟩) 0 0) 0 [] rfl HOS.out (.slice a l.length cap) l rfl HL2.out (fun y _ => rfl) (by unfold maxLen; omega) (by omega) (by simp; omega) ?_; intro v3 w3 ho3 hg3; have HO3 := Lib.hid (show w3.ownsRow w.heap.size 5 1 v3 l.length (l.map byteV) by simpa using ho3); have HB3 := Lib.hid (HB2.out.grown hg3 (by simp; omega) (fun k hk => (HOS.out.lt k hk).1)); obtain ⟨a3, c3, rfl, -, -⟩ := own_open HO3.out; clear ho3 hg3)
    | (at_builtin; refine wpList_append_of (f := id) _ rfl (.tmp 10) (.tmp 25) 23 rfl w.heap.size 5 j0 (.int .u8 0) 1 Try.underlying23 hj0 jz0 jz1 jz2 rfl (.slice a3 l.length c3) l.length (l.map byteV) rfl (HO3.out.alloc _) (.slice (some ⟨w3.heap.size, 0, none⟩) 4 4) [.int .u8 ((n : Int) % 256), .int .u8 ((n : Int) / 256 % 256), .int .u8 ((n : Int) / 65536 % 256), .int .u8 ((n : Int) / 16777216)] rfl (four_new w3 _ _ _ _ _) (fun y hy => by simp at hy; rcases hy with rfl | rfl | rfl | rfl <;> rfl) (by simp; unfold maxLen; omega) (by simp; omega) (by have := HB3.out.size; simp; omega) ?_; intro v4 w4 ho4 hg4; have HO4 := Lib.hid ho4; have HB4 := Lib.hid ((HB3.out.alloc HB3.out.size (.cells #[.int .u8 ((n : Int) % 256), .int .u8 ((n : Int) / 256 % 256), .int .u8 ((n : Int) / 65536 % 256), .int .u8 ((n : Int) / 16777216)] 5)).grown hg4 (by have := HB3.out.size; simp; omega) (fun k hk => (HO3.out.lt k hk).1)); clear ho4 hg4))
  go_ret
  refine ⟨_, rfl, ?_, HB4.out⟩
  have h4 := HO4.out
  rw [List.map_append, HLE']
  have e : [n % 256, n / 256 % 256, n / 65536 % 256, n / 16777216 % 256].map byteV = [Value.int .u8 ((n : Int) % 256), .int .u8 ((n : Int) / 256 % 256), .int .u8 ((n : Int) / 65536 % 256), .int .u8 ((n : Int) / 16777216)].map id := by
    simp [byteV]
    omega
  rw [e]
  exact h4

theorem strN_toList (l : List Nat) : (strN l).toList = l.map UInt8.ofNat := by
  rw [ByteArray.toList_eq, strN, strOfNums_data, List.map_map]
  rfl
theorem map_u8_inj : ∀ {a b : List Nat}, Octets a → Octets b → a.map UInt8.ofNat = b.map UInt8.ofNat → a = b
  | [], [], _, _, _ => rfl
  | [], _ :: _, _, _, h => by simp at h
  | _ :: _, [], _, _, h => by simp at h
  | x :: a, y :: b, ha, hb, h => by
    rw [List.map_cons, List.map_cons, List.cons.injEq] at h
    have h1 : x = y := by
      have hx : x < 256 := ha x (List.mem_cons_self ..)
      have hy : y < 256 := hb y (List.mem_cons_self ..)
      have := congrArg UInt8.toNat h.1
      simpa [Nat.mod_eq_of_lt hx, Nat.mod_eq_of_lt hy] using this
    rw [h1, map_u8_inj (fun z hz => ha z (List.mem_cons_of_mem _ hz)) (fun z hz => hb z (List.mem_cons_of_mem _ hz)) h.2]
theorem strN_same {a b : List Nat} (ha : Octets a) (hb : Octets b) : ((strN a).toList == (strN b).toList) = decide (a = b) := by
  by_cases h : a = b
  · rw [h]; simp
  · rw [decide_eq_false h]
    exact beq_eq_false_iff_ne.2 fun e => h (map_u8_inj ha hb (by rwa [strN_toList, strN_toList] at e))

/-- Bytes that are some with their sum. -/
def WholeS (l : List Nat) : Prop := l.take (l.length - 4) ++ le4 (crcSum (l.take (l.length - 4))) = l

end Go.Proofs.Ytccnkfblhkncoaa
