import Derived.Test.YtmihpbdgilmdiaaJ1
import Derived.Test.YtmihpbdgilmdiaaWrStore
import Derived.Test.YtmihpbdgilmdiaaJ10

section
/- The document's Body, Put of a right packet (layer 16). -/
namespace Go.Proofs.Ytmihpbdgilmdiaa
open Go.RowKit Go.Extern.Stop Go.Stop Go.Extern

theorem lay_head {p : Pkt} (h : RangedP p) : LayL (headN p) := by
  have h1 := h.k1; have h2 := h.k2; have h3 := h.s1; have h4 := h.s2; have h5 := h.l1; have h6 := h.l2; have h7 := h.t1; have h8 := h.t2
  intro x hx
  simp [headN] at hx
  rcases hx with rfl | rfl | rfl | rfl <;> refine ⟨⟨?_, ?_⟩, ?_, ?_⟩ <;> simp only [] <;> omega
theorem lay_data {p : Pkt} (hk : p.kind = 1) (h : RangedP p) : LayL (dataN p) := by
  obtain ⟨⟨h1, h2⟩, ⟨h3, h4⟩, ⟨h5, h6⟩, ⟨h7, h8⟩, h9, h10⟩ := h.d hk
  intro x hx
  simp [dataN] at hx
  rcases hx with rfl | rfl | rfl | rfl | rfl <;> refine ⟨⟨?_, ?_⟩, ?_, ?_⟩ <;> simp only [] <;> omega
theorem bytes_head (p : Pkt) : bytesN (headN p) = headB p := by
  show (beN 1 p.kind.toNat ++ (beN 2 p.session.toNat ++ (beN 1 p.layer.toNat ++ (beN 5 p.tick.toNat ++ [])))) = _
  rw [List.append_nil]; rfl
theorem bytes_data (p : Pkt) : bytesN (dataN p) = beN 1 (p.sync + 1).toNat ++ (beN 2 p.many.toNat ++ (beN 2 p.place.toNat ++ (beN 1 p.block.toNat ++ beN 2 p.esi.toNat))) := by
  show (beN 1 (p.sync + 1).toNat ++ (beN 2 p.many.toNat ++ (beN 2 p.place.toNat ++ (beN 1 p.block.toNat ++ (beN 2 p.esi.toNat ++ []))))) = _
  rw [List.append_nil]

end Go.Proofs.Ytmihpbdgilmdiaa
end

section
/- The document's Body of an announcement; Body, Put of a right packet (layer 16). (Made by genbody.py.) -/
namespace Go.Proofs.Ytmihpbdgilmdiaa
open Go.RowKit Go.Extern.Stop Go.Stop Go.Extern

theorem five_new (w : World) (a b c d f : Value) (e : TypeId) : ListAt id (w.alloc (.cells #[a, b, c, d, f] e)) (.slice (some ⟨w.heap.size, 0, none⟩) 5 5) [a, b, c, d, f] :=
  ListAt.of_owns (f := id) (l := [a, b, c, d, f]) (own_of_heap (base := 0) (n := 5) (g := w.heap.size) (e := e) (xs := [a, b, c, d, f].map id) (Nat.zero_le _) rfl (by decide) (heap_alloc_new w _))

end Go.Proofs.Ytmihpbdgilmdiaa
end

section
/- The document's Body, Put of a right packet; number (layer 16). -/
namespace Go.Proofs.Ytmihpbdgilmdiaa
open Go.RowKit Go.Extern.Stop Go.Stop Go.Extern

theorem bodyP_le {p : Pkt} (hR : RangedP p) (hF : FormP p) : (bodyP p).length ≤ 81 := (show IsP (bodyP p) p from ⟨hR, hF, rfl⟩).len.2

/-- a right packet's bytes -/
def putP (p : Pkt) : List Nat := bodyP p ++ le4 (crcSum (bodyP p))

theorem numA_step (c : List Nat) (a t : Nat) (h : a + t < c.length) : numA c a (t + 1) = 256 * numA c a t + c.getD (a + t) 0 := by
  unfold numA
  have hl : t < (c.drop a).length := by rw [List.length_drop]; omega
  rw [List.take_add_one, List.getElem?_eq_getElem hl, List.getElem_drop]
  show valN (_ ++ [_]) = _
  rw [valN_snoc, List.getD_eq_getElem?_getD, List.getElem?_eq_getElem h]
  rfl
theorem numA_stop (c : List Nat) (a t k : Nat) (h : c.length ≤ a + t) (ht : t ≤ k) : numA c a k = numA c a t := by
  unfold numA
  rw [List.take_of_length_le (by rw [List.length_drop]; omega), List.take_of_length_le (by rw [List.length_drop]; omega)]
theorem numA_lt (c : List Nat) (ho : Octets c) (a t : Nat) : numA c a t < 256 ^ t := by
  unfold numA
  have h := valN_lt ((c.drop a).take t) fun x hx => ho x (List.mem_of_mem_drop (List.mem_of_mem_take hx))
  exact Nat.lt_of_lt_of_le h (Nat.pow_le_pow_right (by decide) (by rw [List.length_take]; omega))

end Go.Proofs.Ytmihpbdgilmdiaa
end
