/- What package wire answers, as the laws of layer 16 want it (each is to be proved of the landed code). -/
import Derived.Test.YtmihpbdgilmdiaaWrGet
import Derived.Test.YtmihpbdgilmdiaaCkC
namespace Go.Proofs.Ytmihpbdgilmdiaa
open Go.RowKit Go.Extern.Stop Go.Stop Go.Extern

def nameWrCheck : ByteArray := ⟨#[119, 105, 114, 101, 46, 67, 104, 101, 99, 107]⟩
def nameWrPut : ByteArray := ⟨#[119, 105, 114, 101, 46, 80, 117, 116]⟩
def nameWrGet : ByteArray := ⟨#[119, 105, 114, 101, 46, 71, 101, 116]⟩

/-- Check: why a packet is not right. -/
def WrCheckC : Prop := ∀ (w : World) (p : Pkt) (D : Value), ListAt byteV w D p.data → FitsP p →
  Calls Try.prog 13 #[pktV p D] w fun e w' => ∃ E, e = .returned E ∧ ErrAns (ckN p) nameWrCheck w' E ∧ Below w.heap.size w w'
/-- Same: are all fields the same? -/
def WrSameC : Prop := ∀ (w : World) (p q : Pkt) (D E : Value), ListAt byteV w D p.data → ListAt byteV w E q.data → FitsP p → FitsP q →
  Calls Try.prog 6 #[pktV p D, pktV q E] w fun e w' => e = .returned (.bool (decide (p = q))) ∧ Below w.heap.size w w'
/-- Put: a right packet's bytes in a row of their own, or why there are none. -/
def WrPutC : Prop := ∀ (w : World) (p : Pkt) (D : Value), ListAt byteV w D p.data → FitsP p →
  Calls Try.prog 10 #[pktV p D] w fun e w' => Below w.heap.size w w' ∧
    ((ckN p ≠ 0 ∧ ∃ E, e = .returned (.tuple #[nilS, E]) ∧ ErrAns (ckN p) nameWrPut w' E) ∨
     (ckN p = 0 ∧ ∃ v', e = .returned (.tuple #[v', .nilIface]) ∧ w'.ownsRow w.heap.size 5 1 v' (putP p).length ((putP p).map byteV)))
/-- Get: the packet of bytes, its data in a row of its own, or why there is none. -/
def WrGetC : Prop := ∀ (w : World) (v : Value) (l : List Nat), ListAt byteV w v l → Octets l → l.length ≤ 140737488351232 →
  Calls Try.prog 11 #[v] w fun e w' => ∃ (p : Pkt) (k : Int) (D E : Value), e = .returned (.tuple #[pktV p D, E]) ∧ ErrAns k nameWrGet w' E ∧ GotP l k p ∧
    w'.ownsRow w.heap.size 5 1 D p.data.length (p.data.map byteV) ∧ Below w.heap.size w w'

theorem putP_octets {p : Pkt} (h : Octets p.data) : Octets (putP p) := fun x hx => by
  rcases List.mem_append.1 hx with h1 | h1
  · exact bodyP_octets h x h1
  · exact le4_octets _ x h1
theorem putP_len {p : Pkt} (h : ckN p = 0) : 22 ≤ (putP p).length ∧ (putP p).length ≤ 85 := by
  obtain ⟨h1, h2⟩ := ckN_zero.1 h
  have := (show IsP (bodyP p) p from ⟨h1, h2, rfl⟩).len
  unfold putP
  rw [List.length_append, le4_length]
  omega
theorem putP_whole (p : Pkt) : WholeS (putP p) := wholeS_add _
theorem putP_body (p : Pkt) : (putP p).take ((putP p).length - 4) = bodyP p := by
  unfold putP
  rw [List.length_append, le4_length, Nat.add_sub_cancel, List.take_left']
  rfl
/-- Get of Put is the packet (P16.3). -/
theorem putP_got {p : Pkt} (h : ckN p = 0) {k : Int} {q : Pkt} (hg : GotP (putP p) k q) : k = 0 ∧ q = p := by
  obtain ⟨h1, h2⟩ := ckN_zero.1 h
  have hl := putP_len h
  exact hg.same (.inr (.inr (.inr ⟨by omega, putP_whole p, rfl, by rw [putP_body]; exact ⟨h1, h2, rfl⟩⟩)))
/-- Put of Get are the bytes (P16.3). -/
theorem got_putP {l : List Nat} {q : Pkt} (hg : GotP l 0 q) : ckN q = 0 ∧ putP q = l := by
  rcases hg with ⟨-, h, -⟩ | ⟨-, -, h, -⟩ | ⟨-, -, -, h, -⟩ | ⟨h4, hw, -, hi⟩
  · cases h
  · cases h
  · cases h
  · refine ⟨ckN_zero.2 ⟨hi.1, hi.2.1⟩, ?_⟩
    unfold putP
    rw [hi.2.2]
    exact hw
/-- Two right packets have the same bytes just if they are the same (P16.4). -/
theorem putP_inj {p q : Pkt} (h1 : ckN p = 0) (h2 : ckN q = 0) (h : putP p = putP q) : p = q := by
  obtain ⟨a1, a2⟩ := ckN_zero.1 h1
  obtain ⟨b1, b2⟩ := ckN_zero.1 h2
  have e : bodyP p = bodyP q := by rw [← putP_body p, ← putP_body q, h]
  exact bodyP_inj a1 a2 b1 b2 e

/-- the example: data of session 1, layer 2, tick 3 -/
def pktX : Pkt := ⟨1, 1, 2, 3, false, -1, 1, 0, 0, 5, [97], 0, 0, 0, 0, 0, 0, 0, 0, 0⟩
theorem pktX_ok : ckN pktX = 0 := ckN_zero.2 ⟨⟨by decide, by decide, by decide, by decide, by decide, by decide, by decide, by decide, fun _ => by decide, fun h => by cases h⟩, ⟨fun _ => by decide, fun h => by cases h⟩⟩
theorem pktX_fits : FitsP pktX := by
  refine ⟨?_, ?_, ?_, ?_, ?_, ?_, ?_, ?_, ?_, ?_, ?_, ?_, ?_, ?_, ?_, ?_, ?_, ?_, fun x hx => ?_⟩
  all_goals first | exact ⟨by decide, by decide⟩ | (simp [pktX] at hx; omega)
theorem pktX_len : (putP pktX).length = 22 := by
  unfold putP
  rw [List.length_append, le4_length]
  rfl
end Go.Proofs.Ytmihpbdgilmdiaa
