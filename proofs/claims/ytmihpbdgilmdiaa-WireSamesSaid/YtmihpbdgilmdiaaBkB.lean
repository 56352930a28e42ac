/- Package blocking: Check, Source, Of. -/
import Derived.Test.YtmihpbdgilmdiaaJ9
import Derived.Test.YtmihpbdgilmdiaaJ11
namespace Go.Proofs.Ytmihpbdgilmdiaa
open Go.RowKit Go.Extern.Stop Go.Stop Go.Extern

def nameBkOf : ByteArray := ⟨#[98, 108, 111, 99, 107, 105, 110, 103, 46, 79, 102]⟩
def nameBkCheck : ByteArray := ⟨#[98, 108, 111, 99, 107, 105, 110, 103, 46, 67, 104, 101, 99, 107]⟩
def nameBkSource : ByteArray := ⟨#[98, 108, 111, 99, 107, 105, 110, 103, 46, 83, 111, 117, 114, 99, 101]⟩
def nameBkCut : ByteArray := ⟨#[98, 108, 111, 99, 107, 105, 110, 103, 46, 67, 117, 116]⟩
def nameBkJoin : ByteArray := ⟨#[98, 108, 111, 99, 107, 105, 110, 103, 46, 74, 111, 105, 110]⟩

set_option maxRecDepth 1000000 in
set_option maxHeartbeats 4000000 in
theorem bkCheck_any {w : World} (s b n l q : Int) (hs : I64 s) (hb : I64 b) (hn : I64 n) (hl : I64 l) (hq : I64 q) :
    Calls Try.prog 34 #[plV s b n l q] w fun e w' => ∃ E, e = .returned E ∧ ErrAns (planC s b n l q) nameBkCheck w' E ∧ Below w.heap.size w w' := by
  have HWR : Hid (∀ V : World, Calls Try.prog 35 #[.agg #[.int .i64 s, .int .i64 b, .int .i64 n, .int .i64 l, .int .i64 q]] V fun e w' => e = .returned (.int .i64 (planC s b n l q)) ∧ Below V.heap.size V w') := Lib.hid fun V => bkWrong_any s b n l q hs hb hn hl hq
  generalize planC s b n l q = k at *
  unfold plV plC
  obtain ⟨W0, hW0, hb0, hbx⟩ := pl_laid w s b n l q
  have HW0 := Lib.hid hW0
  have HB0 := Lib.hid hb0
  clear hs hb hn hl hq hW0 hb0 hbx
  go_enter Try.func34, Try.ntmps34
  go_wp2_with fail
  rw [← HW0.out]
  refine (HWR.out W0).mono ?_
  rintro e w1 ⟨rfl, hb1⟩
  have HB1 := Lib.hid (HB0.out.trans (hb1.mono HB0.out.size))
  clear hb1
  go_wp2_with fail
  refine (New_both nameBkCheck k _).mono ?_
  rintro e w2 ⟨E, rfl, hc, hb2⟩
  have HC := Lib.hid hc
  have HB2 := Lib.hid (HB1.out.trans (hb2.mono HB1.out.size))
  clear hc hb2
  go_wp2
  go_ret
  exact ⟨_, rfl, HC.out, HB2.out⟩

def srcC (s b n l q i : Int) : Int := if planC s b n l q = 0 then (if i < 0 ∨ n ≤ i then 1 else 0) else planC s b n l q

end Go.Proofs.Ytmihpbdgilmdiaa
