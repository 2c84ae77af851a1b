/-
  The walk over same; rows that are written over.
-/
import Derived.Test.YtlekffhacmdnnaaEqlW
namespace Go.Proofs.Ytlekffhacmdnnaa
open Go.RowKit

theorem Own.rdv {w : World} {base : Nat} {v : Value} {l : List UInt8} (h : Own w base v l) (hl : l.length ≤ 140737488355328) {S : Nat → Prop} (hS : ∀ k, base ≤ k → k < w.heap.size → ¬ S k) : RdV w S v (bs l) := by
  rcases h.2 with ⟨rfl, h0⟩ | ⟨g, cap, cur, rfl, hb, hg, h1, h2, h3, h4⟩
  · have : l = [] := List.eq_nil_of_length_eq_zero h0
    subst this
    exact RdV.nil _ _
  · refine ⟨_, cap, by rw [bs_length], by rw [bs_length]; exact h1, by rw [bs_length]; exact hl, by unfold maxLen at h2; exact h2, (fun e => by cases e), fun k x hx => ⟨g, 0, rfl, block_lt hg, hS g hb (block_lt hg), ?_⟩⟩
    have hk := (List.getElem?_eq_some_iff.1 hx).1
    rw [bs_length] at hk
    rw [Nat.zero_add, ← hx]
    have := h.cellAt k (by omega)
    exact this
/-- A row of n one-cell values of the call's own that may be written over. -/
def Wr (w : World) (base : Nat) (p : Option Addr) (n cap : Nat) : Prop := ∃ vs : List Value, w.ownsRow base 5 1 (.slice p n cap) n vs
theorem Wr.of {w : World} {base cap : Nat} {p : Option Addr} {l : List UInt8} (h : Own w base (.slice p l.length cap) l) : Wr w base p l.length cap := ⟨_, h⟩
theorem Wr.at_ {w : World} {base n cap : Nat} {p : Option Addr} (h : Wr w base p n cap) {k : Nat} (hk : k < n) (u : Value) :
    ∃ g x, p = some ⟨g, 0, none⟩ ∧ base ≤ g ∧ g < w.heap.size ∧ w.cell? ⟨g, k, none⟩ = some x ∧ w.frozen? ⟨g, k, none⟩ = false ∧ Wr (w.setCell ⟨g, k, none⟩ u) base p n cap := by
  obtain ⟨vs, h⟩ := h
  rcases h.2 with ⟨e, h0⟩ | ⟨g, cap', cur, e, hb, hg, h1, h2, h3, h4⟩
  · omega
  · injection e with e1 _ e2
    subst e1 e2
    have hl := h.1
    obtain ⟨r1, _⟩ := h.stored k u
    have hc := h.cellAt k (by omega)
    have hkv : k < vs.length := by omega
    rw [List.getElem?_eq_getElem hkv] at hc
    exact ⟨g, _, rfl, hb, block_lt hg, hc, frozen_of hg, _, r1⟩
theorem Pair.fr {S T : Nat → Prop} {w w' : World} {db rb : Nat} {D E : Dsk} (h : Pair S w db rb D E) (hf : Fr T w w') (hd : ∀ k, k < w.heap.size → S k → ¬ T k) : Pair S w' db rb D E := by
  obtain ⟨S1, S2, h1, h2, h3, h4⟩ := h
  exact ⟨S1, S2, h1.step hf (fun k hk hs => hd k hk (h3 k hs).1) (fun _ _ h => h), h2.step hf (fun k hk hs => hd k hk (h4 k hs)) (fun _ _ h => h), h3, h4⟩

set_option maxRecDepth 100000 in
set_option maxHeartbeats 2000000 in
theorem same_any (w : World) (S : Nat → Prop) (xa : Nat) (v : Value) (xs : List PAct) (h : Dk w S xa (plays ⟨1048576, [], 0⟩ xs)) (hv : RdA w (fun _ => False) v xs) (hfit : ∀ x ∈ xs, FitA x) (hxl : xs.length ≤ 1048576) (hcnt : (plays ⟨1048576, [], 0⟩ xs).files.length ≤ 1099511627776) :
    Calls Try.prog 26 #[.pointer (some ⟨xa, 0, none⟩), v] w fun e w' => e = .returned (.bool true) ∧ Below w.heap.size w w' := by
  have HV := Lib.hid hv
  have HFit := Lib.hid hfit
  have HD := Lib.hid h
  obtain ⟨p, cap, rfl, hlc, hl47, hcm⟩ := hv.form
  clear hv hfit h
  go_enter Try.func26, Try.ntmps26
  go_wp2_with fail
  refine (new_any w 1048576 (by omega) (by omega)).mono ?_
  rintro e w1 ⟨rfl, hd1, hb1⟩
  have HP := Lib.hid (play_any w1 _ _ _ hd1 _ xs (HV.out.lift hb1 (Nat.le_refl _)) HFit.out hxl 0 (by omega) (by simp) (by simp))
  have HB1 := Lib.hid hb1
  clear hd1 hb1
  go_wp2_with fail
  refine HP.out.mono ?_
  rintro e w2 ⟨rfl, hd2, hf2, _⟩
  have hs1 := HB1.out.size
  have HB2 : Hid (Below w.heap.size w w2) := Lib.hid (HB1.out.trans (hf2.below hs1 fun k hk hle => by omega))
  have HE := Lib.hid (equal_any w2 S _ xa w.heap.size _ (HD.out.after HB2.out) hd2 hcnt)
  clear hd2 hf2 HP
  go_wp2_with fail
  refine HE.out.mono ?_
  rintro e w3 ⟨rfl, hb3⟩
  have hs2 := HB2.out.size
  have HB3 := Lib.hid (HB2.out.trans (hb3.mono hs2))
  clear hb3
  go_wp2_with fail
  go_ret
  exact ⟨rfl, HB3.out⟩
end Go.Proofs.Ytlekffhacmdnnaa
