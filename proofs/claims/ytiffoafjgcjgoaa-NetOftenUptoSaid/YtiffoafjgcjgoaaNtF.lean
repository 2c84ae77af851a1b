/-
  The walk over Double.
-/
import Derived.Test.YtiffoafjgcjgoaaNtE
namespace Go.Proofs.Ytiffoafjgcjgoaa
open Go.RowKit

theorem dbl_no {N : PNet} {f t : Int} (h : has N f t = false) (p : Int) : dbl N f t p = N ∧ dbld N f t = false := by
  unfold dbl dbld
  simp [h]
theorem dbl_yes {N : PNet} {f t : Int} (h : has N f t = true) (p : Int) : dbl N f t p = lay1 N f t (text N f t p) ∧ dbld N f t = may N f t := by
  unfold dbl dbld
  simp [h]

set_option maxRecDepth 100000 in
set_option maxHeartbeats 4000000 in
theorem double_any (w : World) (S : Nat → Prop) (nb : Nat) (N : PNet) (h : Nt w S nb N) (f t p : Int) (hp : -9223372036854775808 ≤ p ∧ p ≤ 9223372036854775807) :
    Calls Try.prog 15 #[.pointer (some ⟨nb, 0, none⟩), .int .i64 f, .int .i64 t, .int .i64 p] w fun e w' => e = .returned (.bool (dbld N f t)) ∧ Nt w' (More S w.heap.size) nb (dbl N f t p) ∧ Fr S w w' := by
  obtain ⟨gb, ro, bv, h⟩ := h
  obtain ⟨Y, hY⟩ : ∃ Y, w.alloc (.cells #[.int .i64 p] 3) = Y := ⟨_, rfl⟩
  have hb : Below w.heap.size w Y := by rw [← hY]; exact (Below.refl _ _).alloc (Nat.le_refl _) _
  have h1 := h.after hb
  have hc : Y.cell? ⟨w.heap.size, 0, none⟩ = some (.int .i64 p) := by rw [← hY]; exact cell_of (heap_alloc_new w _) rfl
  have HF := Lib.hid (Fr.of_new hb S)
  have HSz := Lib.hid hb.size
  have HM := Lib.hid (meant_any w p)
  rw [hY] at HM
  rcases has_cases N f t with ⟨hl, hh⟩ | ⟨f', t', rfl, rfl, hf, ht, hz, hh⟩ | ⟨f', t', rfl, rfl, hf, ht, hz, hh⟩
  · have HI := Lib.hid (find_no _ S nb N gb ro bv h1 f t hl (fnV w.heap.size))
    have H1 := Lib.hid h1
    obtain ⟨e1, e2⟩ := dbl_no hh p
    rw [e1, e2]
    clear h h1 hb hc hl hh e1 e2 hY
    go_enter Try.func15, Try.ntmps15
    go_wp2_with fail
    refine HM.out.mono ?_
    rintro e w1 ⟨rfl, rfl⟩
    unfold fnV at HI ⊢
    go_wp2_with fail
    refine HI.out.mono ?_
    rintro e w1 ⟨rfl, rfl⟩
    go_wp2_with fail
    go_quiet (fail)
    go_wp2_with fail
    go_ret
    exact ⟨rfl, Nt.weak (Nt.drewN ⟨gb, ro, bv, H1.out⟩ _) _, HF.out.drewN _⟩
  · have HI := Lib.hid (find_none _ S nb N gb ro bv h1 f' t' hf ht hz (fnV w.heap.size))
    have H1 := Lib.hid h1
    obtain ⟨e1, e2⟩ := dbl_no hh p
    rw [e1, e2]
    clear h h1 hb hc hz hh e1 e2 hY
    go_enter Try.func15, Try.ntmps15
    go_wp2_with fail
    refine HM.out.mono ?_
    rintro e w1 ⟨rfl, rfl⟩
    unfold fnV at HI ⊢
    go_wp2_with fail
    refine HI.out.mono ?_
    rintro e w1 ⟨rfl, rfl⟩
    go_wp2_with fail
    go_quiet (fail)
    go_wp2_with fail
    go_ret
    exact ⟨rfl, Nt.weak (Nt.drewN ⟨gb, ro, bv, H1.out⟩ _) _, HF.out.drewN _⟩
  · have HI := Lib.hid (find_yes _ S nb N gb ro bv h1 f' t' hf ht hz w.heap.size p hp hc)
    have hta := text_at hh p
    have htl := h.wf.text hh p
    have hk : kth N f' t' p < cnt N.L f' t' := kth_lt hh p
    have ekp : pick p (cnt N.L f' t') = kth N f' t' p := rfl
    rw [ekp] at HI
    obtain ⟨e1, e2⟩ := dbl_yes hh p
    rw [e1, e2]
    have hta : (bag N.L f' t')[kth N f' t' p]? = some (text N f' t' p) := hta
    generalize kth N f' t' p = k at *
    generalize text N f' t' p = s at *
    have h2 : NtAt Y.drew S nb N gb ro bv := h1.after (below_drew (Below.refl _ _))
    have c0 := h2.c0
    have cr := h2.rowAt hf ht
    obtain ⟨q, cap, eq, hq1, hq2, hq3⟩ := (h2.bags f' t' hf ht).shape
    obtain ⟨g, off, rfl, ck⟩ := hq3 k s hta
    have e0 : (bag N.L f' t').length = cnt N.L f' t' := rfl
    rw [eq, e0] at cr
    rw [e0] at hq1
    have hl : isLink N f' t' = true := by rw [isLink_iff]; omega
    have hm : may N f' t' = decide (cnt N.L f' t' < N.bound) := by rw [may, hl]; simp
    have hwf := h.wf
    by_cases hlt : cnt N.L f' t' < N.bound
    · have HY := Lib.hid (blay_yes _ S nb N gb ro bv h2 f' t' hf ht s htl hlt)
      rw [hm, decide_eq_true hlt]
      generalize cnt N.L f' t' = n at *
      clear h h1 h2 hb hc hz hh e1 e2 hY hq3 hta ekp eq hl hm hlt e0 hwf
      go_enter Try.func15, Try.ntmps15
      go_wp2_with fail
      refine HM.out.mono ?_
      rintro e w1 ⟨rfl, rfl⟩
      unfold fnV at HI ⊢
      go_wp2_with fail
      refine HI.out.mono ?_
      rintro e w1 ⟨rfl, rfl⟩
      go_wp2_with fail
      go_still_tail 14, (by kernel_rfl)
      change wpList _ _ _ _ _ w1.drew
      go_wp2_with fail
      refine HY.out.mono ?_
      rintro e w2 ⟨rfl, ⟨bv2, h2⟩, hf2⟩
      have H2 := Lib.hid h2
      have HF2 := Lib.hid hf2
      clear h2 hf2
      go_wp2_with fail
      go_ret
      exact ⟨rfl, Nt.mono ⟨gb, ro, bv2, H2.out⟩ (fun _ _ hs => hs.imp id fun hle => Nat.le_trans HSz.out hle), HF.out.drew.then HF2.out⟩
    · have HY := Lib.hid (blay_no _ S nb N gb ro bv h2 f' t' hf ht (.string ⟨s.toArray⟩) hlt)
      have H1 := Lib.hid h2
      obtain ⟨e3, _⟩ := lay1_no (s := s) (show may N f' t' = false by rw [hm]; simpa using hlt)
      rw [hm, decide_eq_false hlt, e3]
      generalize cnt N.L f' t' = n at *
      clear h h1 h2 hb hc hz hh e1 e2 e3 hY hq3 hta ekp eq hl hm hlt e0 hwf
      go_enter Try.func15, Try.ntmps15
      go_wp2_with fail
      refine HM.out.mono ?_
      rintro e w1 ⟨rfl, rfl⟩
      unfold fnV at HI ⊢
      go_wp2_with fail
      refine HI.out.mono ?_
      rintro e w1 ⟨rfl, rfl⟩
      go_wp2_with fail
      go_still_tail 14, (by kernel_rfl)
      change wpList _ _ _ _ _ w1.drew
      go_wp2_with fail
      refine HY.out.mono ?_
      rintro e w2 ⟨rfl, rfl⟩
      go_wp2_with fail
      go_ret
      exact ⟨rfl, Nt.weak ⟨gb, ro, bv, H1.out⟩ _, HF.out.drew⟩
end Go.Proofs.Ytiffoafjgcjgoaa
