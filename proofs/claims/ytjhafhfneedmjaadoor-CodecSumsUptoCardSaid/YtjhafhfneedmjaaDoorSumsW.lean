/-
  The walk over glacierlaw1.CodecSums: for any parts (of a bulk that a machine bears) the answer is true, and no memory that was there is changed.
-/
import Derived.Test.YtjhafhfneedmjaaDoorLawW
namespace Go.Proofs.YtjhafhfneedmjaaDoor
open Go.RowKit

set_option maxHeartbeats 1000000 in
theorem sums_any (v : Value) (ls : List (List UInt8)) (w : World) (h : RdL w w.heap.size v ls) (ht : Tabs w) (hf : flen ls ≤ 1048576) (hn : ls.length ≤ 1048576) :
    Calls Tryd.prog 3 #[v] w fun e w' => e = .returned (.bool true) ∧ Below w.heap.size w w' := by
  have HT := Lib.hid ht
  have HL := Lib.hid h
  clear ht
  obtain ⟨p, cap, rfl, hlc, hl47, hcm, hat⟩ := h
  clear hat
  go_enter Tryd.func3, Tryd.ntmps3
  go_wp2_with fail
  refine (known_any w HT.out).mono ?_
  rintro e w1 ⟨rfl, hb1⟩
  have HL1 := Lib.hid (HL.out.below hb1)
  have HT1 := Lib.hid (HT.out.under hb1 HT.out.two)
  have HB1 := Lib.hid hb1
  have hsz1 := hb1.size
  clear hb1
  go_wp2_with fail
  refine (total_any _ ls w.heap.size w1 HL1.out (by omega)).mono ?_
  rintro e w1' ⟨rfl, rfl⟩
  by_cases hbig : 65536 < flen ls
  · have d1 : decide ((65536 : Int) < (flen ls : Int)) = true := by simp; omega
    go_wp2_with fail
    go_ret
    exact ⟨rfl, HB1.out⟩
  · have d1 : decide ((65536 : Int) < (flen ls : Int)) = false := by simp; omega
    by_cases hmany : 1000 < ls.length
    · have d2 : decide ((1000 : Int) < (ls.length : Int)) = true := by simp; omega
      go_wp2_with fail
      go_ret
      exact ⟨rfl, HB1.out⟩
    · have d2 : decide ((1000 : Int) < (ls.length : Int)) = false := by simp; omega
      go_wp2_with fail
      refine (sum_any _ ls w.heap.size w1 HL1.out HT1.out).mono ?_
      rintro e w2 ⟨rfl, n, rfl⟩
      go_wp2_with fail
      refine (joined_any _ ls w.heap.size (w1.drewN n) (HL1.out.drewN n) hsz1 (by unfold flen at hf; omega)).mono ?_
      rintro e w3 ⟨v3, rfl, hown3, hb3⟩
      go_wp2_with fail
      refine (refSum_any v3 ls.flatten w3.heap.size w3 (hown3.rd (by unfold flen at hf; omega))).mono ?_
      rintro e w4 ⟨rfl, rfl⟩
      go_wp2_with fail
      go_ret
      refine ⟨ret_bool (by simp), HB1.out.trans ((below_drewN (Below.refl w.heap.size w1) n).trans (hb3.mono hsz1))⟩
end Go.Proofs.YtjhafhfneedmjaaDoor
