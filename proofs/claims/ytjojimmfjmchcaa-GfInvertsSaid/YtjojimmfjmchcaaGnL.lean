/-
  The walk over gf.clearColumn.
-/
import Derived.Test.YtjojimmfjmchcaaGnK
namespace Go.Proofs.Ytjojimmfjmchcaa
open Go.RowKit

/-- One element of a matrix of one's own, with its row's place. -/
theorem OwL.el {w : World} {G : Nat → Prop} {mb n cap i j : Nat} {us : List Value} {a : MtF} (h : OwL w G (.slice (some ⟨mb, 0, none⟩) n cap) us (tabM n n a)) (hi : i < n) (hj : j < n) :
    ∃ g c, n ≤ c ∧ w.cell? ⟨mb, i, none⟩ = some (.slice (some ⟨g, 0, none⟩) n c) ∧ w.cell? ⟨g, j, none⟩ = some (.int .u8 ((a i j).toNat : Int)) := by
  obtain ⟨mb', cap', u, hv, _, _, _, _, _, k1, _, hou⟩ := h.at_ (tabM_at hi n a)
  obtain ⟨rfl, _⟩ : mb = mb' ∧ True := by
    simp only [Value.slice.injEq, Option.some.injEq, Addr.mk.injEq] at hv
    exact ⟨hv.1.1, trivial⟩
  obtain ⟨g, cp, rfl, hg1, _, _⟩ := own_form hou (by rw [rowM_len]; omega)
  have hc := (own_cell hou (i := j) (by rw [rowM_len]; exact hj)).1
  rw [rowM_nat hj] at hc
  rw [rowM_len] at k1 hg1
  exact ⟨g, cp, hg1, k1, hc⟩
set_option maxRecDepth 100000 in
set_option maxHeartbeats 2000000 in
theorem clear_any (w : World) (GL GR : Nat → Prop) (vl vr : Value) (usl usr : List Value) (p1 p2 n i : Nat) (a o : MtF) (h : GaS w GL GR vl vr usl usr p1 p2 n a o) (hi : i < n) (hn : n ≤ 255) :
    Calls Try.prog 51 #[vl, .int .i64 (i : Int), .func (.func 60) #[] #[.pointer (some ⟨p1, 0, none⟩), .pointer (some ⟨p2, 0, none⟩)]] w fun e w' => Fr (fun x => GL x ∨ GR x) w w' ∧
      ((∃ p, i ≤ p ∧ p < n ∧ a p i ≠ 0#8 ∧ e = .returned (.bool true) ∧ GaS w' GL GR vl vr usl usr p1 p2 n (mixF n i (addR a i p (byF a i p)) (addR a i p (byF a i p))) (mixF n i (addR a i p (byF a i p)) (addR o i p (byF a i p)))) ∨
      (e = .returned (.bool false) ∧ ∀ q, i ≤ q → q < n → a q i = 0#8)) := by
  have HH := Lib.hid h
  obtain ⟨mb, cap, u, rfl, hcap, hcap2, _, _, _, hku, _, _⟩ := h.l.at_ (tabM_at hi n a)
  clear hku
  rw [tabM_len] at hcap HH
  rw [tabM_len]
  clear h
  go_enter Try.func51, Try.ntmps51
  go_wp2_with fail
  go_loop [7] (fun f => ∃ q : Nat, i ≤ q ∧ q < n ∧ f = .int .i64 (q : Int) ∧ ∀ r, i ≤ r → r < q → a r i = 0#8) (fun f => n - (intOf f).toNat)
  case atStart => exact ⟨i, Nat.le_refl _, hi, rfl, fun r h1 h2 => by omega⟩
  case round =>
    obtain ⟨q, hq1, hq2, rfl, hz⟩ := hrel
    have HZ := Lib.hid hz
    have d1 : decide (q < n) = true := decide_eq_true hq2
    have d2 : decide (i < n) = true := decide_eq_true hi
    obtain ⟨g, c, hgc, k1, k2⟩ := HH.out.l.el hq2 hi
    have q0 := nat_eq0 (a q i)
    clear hz
    by_cases h0 : a q i = 0#8
    · rw [decide_eq_true h0] at q0
      have HQ0 := Lib.hid h0
      clear h0
      have HZ2 : Hid (∀ r, i ≤ r → r < q + 1 → a r i = 0#8) := Lib.hid (fun r h1 h2 => by
        rcases Nat.lt_or_ge r q with h | h
        · exact HZ.out r h1 h
        · obtain rfl : r = q := by omega
          exact HQ0.out)
      by_cases hl : q + 1 = n
      · have z1 : ((q : Int) + 1 == (n : Int)) = true := by simp; omega
        have HL := Lib.hid hl
        clear hl
        go_wp2_with fail
        go_ret
        exact ⟨Fr.refl _ _, .inr ⟨rfl, fun r h1 h2 => HZ2.out r h1 (by have := HL.out; omega)⟩⟩
      · have z1 : ((q : Int) + 1 == (n : Int)) = false := by simp; omega
        have HL := Lib.hid hl
        clear hl
        go_wp2_with fail
        refine ⟨⟨q + 1, by omega, by have := HL.out; omega, by go_num, HZ2.out⟩, by simp [intOf]; omega⟩
    · rw [decide_eq_false h0] at q0
      have HQ0 := Lib.hid h0
      have HAd : Hid (∀ W : World, Calls Try.prog 18 #[.int .u8 ((a i i).toNat : Int), .int .u8 1] W fun e w' => e = .returned (.int .u8 ((a i i ^^^ 1#8).toNat : Int)) ∧ W = w') := Lib.hid (fun W => add_any W _ 1#8)
      have HDv : Hid (∀ W : World, Calls Try.prog 12 #[.int .u8 ((a i i ^^^ 1#8).toNat : Int), .int .u8 ((a q i).toNat : Int)] W fun e w' => e = .returned (.tuple #[.int .u8 ((byF a i q).toNat : Int), .int .i64 0]) ∧ W = w') := Lib.hid (fun W => by
        have h := div_any W (a i i ^^^ 1#8) (a q i)
        rw [divR_ne _ h0] at h
        exact h)
      obtain ⟨g2, c2, hgc2, k3, k4⟩ := HH.out.l.el hi hi
      have HDo : Hid (∀ W : World, Below w.heap.size w W → Calls Try.prog 60 #[.int .i64 (i : Int), .int .i64 (q : Int), .int .u8 ((byF a i q).toNat : Int), .pointer (some ⟨p1, 0, none⟩), .pointer (some ⟨p2, 0, none⟩)] W fun e w' => e = .returned (.tuple #[]) ∧ GaS w' GL GR (.slice (some ⟨mb, 0, none⟩) n cap) vr usl usr p1 p2 n (addR a i q (byF a i q)) (addR o i q (byF a i q)) ∧ Fr (fun x => GL x ∨ GR x) W w') := Lib.hid (fun W hb => do_any W _ _ _ _ _ _ _ _ n i q _ a o (HH.out.keep hb) hi hq2 hn)
      have HFin : Hid (∀ e w', Fr (fun x => GL x ∨ GR x) w w' → e = Ending.returned (.bool true) → GaS w' GL GR (.slice (some ⟨mb, 0, none⟩) n cap) vr usl usr p1 p2 n (mixF n i (addR a i q (byF a i q)) (addR a i q (byF a i q))) (mixF n i (addR a i q (byF a i q)) (addR o i q (byF a i q))) →
          Fr (fun x => GL x ∨ GR x) w w' ∧ ((∃ p, i ≤ p ∧ p < n ∧ a p i ≠ 0#8 ∧ e = .returned (.bool true) ∧ GaS w' GL GR (.slice (some ⟨mb, 0, none⟩) n cap) vr usl usr p1 p2 n (mixF n i (addR a i p (byF a i p)) (addR a i p (byF a i p))) (mixF n i (addR a i p (byF a i p)) (addR o i p (byF a i p)))) ∨ (e = .returned (.bool false) ∧ ∀ q, i ≤ q → q < n → a q i = 0#8))) := Lib.hid (fun e w' h1 h2 h3 => ⟨h1, .inl ⟨q, hq1, hq2, h0, h2, h3⟩⟩)
      generalize byF a i q = y at *
      generalize addR a i q y = a1 at *
      generalize addR o i q y = o1 at *
      generalize a i i ^^^ 1#8 = s at *
      generalize a i i = t at *
      generalize a q i = x at *
      clear h0
      go_wp2_with fail
      go_quiet (first | (go_at_call 18; exact q_sameG (HAd.out _)) | (go_at_call 12; exact q_sameG (HDv.out _)))
      have hbq : Below w.heap.size w (w.drewN nq) := below_drewN (Below.refl _ _) nq
      have HD1 := Lib.hid (HDo.out _ hbq)
      have HBq := Lib.hid hbq
      clear hbq k1 k2 k3 k4
      go_wp2_with fail
      refine HD1.out.mono ?_
      rintro e w2 ⟨rfl, hg, hf⟩
      have HG2 := Lib.hid hg
      have HF2 : Hid (Fr (fun x => GL x ∨ GR x) w w2) := Lib.hid ⟨hf.os, hf.tape, hf.output, hf.size, hf.block⟩
      clear hg hf
      go_wp2_with fail
      go_loopw [52] (fun f wr => ∃ k : Nat, k ≤ n ∧ f = .int .i64 (k : Int) ∧ GaS wr GL GR (.slice (some ⟨mb, 0, none⟩) n cap) vr usl usr p1 p2 n (mixF k i a1 a1) (mixF k i a1 o1) ∧ Fr (fun x => GL x ∨ GR x) w wr) (fun f _ => n - (intOf f).toNat)
      case atStart => exact ⟨0, by omega, rfl, by rw [mixF_zero, mixF_zero]; exact HG2.out, HF2.out⟩
      case round =>
        obtain ⟨k, hk, rfl, hg, hf⟩ := hrel
        have HG := Lib.hid hg
        have HF := Lib.hid hf
        by_cases hlt : k < n
        · have e1 : decide ((k : Int) < (n : Int)) = true := decide_eq_true (by omega)
          have e2 : decide (k < n) = true := decide_eq_true hlt
          by_cases hki : k = i
          · have z1 : ((k : Int) == (i : Int)) = true := by rw [hki]; simp
            have z2 : (k == i) = true := by rw [hki]; simp
            have HM := Lib.hid (And.intro (mixF_skip a1 a1 hki) (mixF_skip a1 o1 hki))
            clear hki hg hf
            go_wp2_with fail
            refine ⟨⟨k + 1, by omega, by go_num, by rw [HM.out.1, HM.out.2]; exact HG.out, HF.out⟩, by simp [intOf]; omega⟩
          · have z1 : ((k : Int) == (i : Int)) = false := by simp; omega
            have z2 : (k == i) = false := by simp; omega
            obtain ⟨g3, c3, hgc3, k5, k6⟩ := hg.l.el hlt hi
            rw [mixF_own] at k6
            have HM := Lib.hid (And.intro (mixF_next a1 a1 hki) (mixF_next a1 o1 hki))
            have HD2 := Lib.hid (do_any wr _ _ _ _ _ _ _ _ n k i (a1 k i) _ _ hg hlt hi hn)
            clear hki hg hf
            generalize a1 k i = z at *
            go_wp2_with fail
            refine HD2.out.mono ?_
            rintro e w3 ⟨rfl, hg, hf⟩
            have HG3 := Lib.hid hg
            have HF3 := Lib.hid (HF.out.then hf)
            clear hg hf
            go_wp2_with fail
            refine ⟨⟨k + 1, by omega, by go_num, by rw [← HM.out.1, ← HM.out.2]; exact HG3.out, HF3.out⟩, by simp [intOf]; omega⟩
        · obtain rfl : k = n := by omega
          clear hg hf
          go_wp2_with fail
          go_ret
          exact HFin.out _ _ HF.out rfl HG.out
end Go.Proofs.Ytjojimmfjmchcaa
