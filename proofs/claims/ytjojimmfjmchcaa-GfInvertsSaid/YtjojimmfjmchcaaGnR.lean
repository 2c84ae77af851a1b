/-
  The walk over the reference's Inverse.
-/
import Derived.Test.YtjojimmfjmchcaaGnP
namespace Go.Proofs.Ytjojimmfjmchcaa
open Go.RowKit

theorem set_there {w : World} {b i j : Nat} {u v : Value} (h : w.cell? ⟨b, j, none⟩ = some u) : ∃ y, (w.setCell ⟨b, i, none⟩ v).cell? ⟨b, j, none⟩ = some y := by
  by_cases e : j = i
  · subst e
    simp only [World.cell?, World.setCell, Array.getElem?_modify] at h ⊢
    cases hb : w.heap[b]? with
    | none => rw [hb] at h; cases h
    | some o =>
      rw [hb] at h
      cases o with
      | cells c t z =>
        have hj : j < c.size := (Array.getElem?_eq_some_iff.1 h).1
        exact ⟨v, by simp [hj]⟩
      | _ => cases h
  · exact ⟨u, (cell_set_ne e).trans h⟩
theorem set_frozen {w : World} {b i j : Nat} {v : Value} (h : w.frozen? ⟨b, j, none⟩ = false) : (w.setCell ⟨b, i, none⟩ v).frozen? ⟨b, j, none⟩ = false := by
  rw [← h]
  simp only [World.frozen?, World.setCell, Array.getElem?_modify]
  cases w.heap[b]? with
  | none => rfl
  | some o =>
    cases o with
    | cells c t z => simp
    | _ => rfl
set_option maxRecDepth 100000 in
set_option maxHeartbeats 8000000 in
theorem rinverse_m (w : World) (F : Nat → Prop) (v : Value) (A : List (List UInt8)) (ha : Mx w F v A) :
    Calls Try.prog 34 #[v] w fun e w' => ∃ x us, e = .returned (.tuple #[x, .int .i64 (inverseR A).2]) ∧ OwL w' (fun k => w.heap.size ≤ k) x us (inverseR A).1 ∧ Below w.heap.size w w' := by
  have HR1 := Lib.hid (rright_any w F v A ha)
  have HA := Lib.hid ha
  obtain ⟨pa, ca, rfl, hla, _, hca, _⟩ := ha.form
  clear ha
  go_enter Try.func34, Try.ntmps34
  go_wp2_with fail
  refine HR1.out.mono ?_
  rintro e w1 ⟨rfl, n1, hw1⟩
  have hbw1 : Below w.heap.size w w1 := by rw [hw1]; exact below_drewN (Below.refl _ _) n1
  have HBw1 := Lib.hid hbw1
  have HSz : Hid (w1.heap.size = w.heap.size) := Lib.hid (by rw [hw1]; rfl)
  have HA1 := Lib.hid (HA.out.below hbw1)
  clear hw1 hbw1
  cases qa : rightL A
  · have HN := Lib.hid (inverseR_no (A := A) (by rw [qa]; simp))
    clear qa
    go_wp2_with fail
    refine Go.bodyPost_ret (Go.results_tmp2 rfl _ _ _) rfl ?_
    rw [HN.out]
    exact ⟨_, [], rfl, OwL.nil _ _, HBw1.out⟩
  · have ga := right_iff.1 qa
    obtain ⟨b0, o0, q0, c0, rfl, k0⟩ := first_at HA1.out (by omega)
    have hcp : (0 : Int) < (A.length : Int) := by omega
    by_cases hq : A.length = colsL A
    · rw [← hq] at k0
      have HQ := Lib.hid (And.intro qa hq)
      have HT : Hid (A = tabM A.length A.length (ofL A)) := Lib.hid (by
        have h := right_tab qa
        rw [← hq] at h
        exact h)
      have hn1 := ga.1.1
      have hn2 := ga.1.2
      clear qa ga hq
      go_wp2_with fail
      clear k0
      go_loopw [5, 6] (fun x i wr => ∃ (k : Nat) (us : List Value), k ≤ A.length ∧ i = .int .i64 (k : Int) ∧ OwL wr (fun k => w1.heap.size ≤ k) x us (tabM k A.length (ofL A)) ∧ Below w1.heap.size w1 wr) (fun _ i _ => A.length - (intOf i).toNat)
      case atStart => exact ⟨0, [], by omega, rfl, OwL.nil _ _, Below.refl _ _⟩
      case round =>
        obtain ⟨k, us, hk, rfl, ho, hb⟩ := hrel
        obtain ⟨x, hx⟩ : ∃ x, x = u5 := ⟨_, rfl⟩
        subst hx
        have HO := Lib.hid ho
        have HBw := Lib.hid hb
        by_cases hlt : k < A.length
        · have e1 : decide ((k : Int) < (A.length : Int)) = true := decide_eq_true (by omega)
          have e2 : decide (k < A.length) = true := decide_eq_true hlt
          have hAq : A[k]? = some (rowM A.length (ofL A k)) := by
            have h := tabM_at hlt A.length (ofL A)
            rw [← HT.out] at h
            exact h
          obtain ⟨b1, o1, q1, c1, hp1, hbl, _, k3, r3⟩ := HA1.out.at_ hAq
          obtain ⟨rfl, rfl⟩ : b0 = b1 ∧ o0 = o1 := by simpa using hp1
          have k4 := (below_cells hb b0 _ hbl).trans k3
          obtain ⟨X, hX⟩ : ∃ X, wr.alloc (.cells #[] 5) = X := ⟨_, rfl⟩
          have hXb : Below wr.heap.size wr X := by rw [← hX]; exact bel_alloc _ _
          have HL0 : Hid (Own X wr.heap.size (.slice (some ⟨wr.heap.size, 0, none⟩) 0 0) []) := Lib.hid (by rw [← hX]; exact own_lit1 wr)
          have HRd := Lib.hid ((r3.step (Fr.of_below hb) (S := fun k => w1.heap.size ≤ k) (fun k h1 _ => by omega)).below hXb).rd
          have k4x := (below_cells hXb b0 _ (block_lt_of_cell k4)).trans k4
          have HXb := Lib.hid hXb
          have HSn : Hid (tabM (k + 1) A.length (ofL A) = tabM k A.length (ofL A) ++ [rowM A.length (ofL A k)]) := Lib.hid (tabM_snoc _ _ _)
          have hlen : (rowM A.length (ofL A k)).length = A.length := rowM_len _ _
          have HLen := Lib.hid hlen
          have HT1 : Hid ((tabM k A.length (ofL A)).length = k) := Lib.hid (tabM_len _ _ _)
          generalize rowM A.length (ofL A k) = rw_ at *
          generalize tabM k A.length (ofL A) = tb at *
          have hl255 : rw_.length ≤ 255 := by omega
          clear ho hb hAq k3 r3 hlen hXb hp1
          go_wp2_with (first
            | (at_builtin
               refine wpList_append_rd rfl (.tmp 34) (.tmp 38) rfl wr.heap.size _ _ _ [] rw_ rfl HL0.out rfl HRd.out (by simp; omega) HXb.out.size ?_
               intro v3 w3 ho3 hb3
               obtain ⟨p3, c3, rfl⟩ := own_shape ho3
               have HO3 : Hid (Own w3 wr.heap.size (.slice p3 ([] ++ rw_).length c3) rw_) := Lib.hid (by simpa using ho3)
               have HB3 := Lib.hid (HXb.out.trans hb3)
               have HBY := Lib.hid (HB3.out.alloc HB3.out.size (.cells #[.slice p3 ([] ++ rw_).length c3] 48))
               have HRow := Lib.hid (HO.out.below HBY.out).row
               have HCl := Lib.hid (one_cl (Y := w3) (.slice p3 ([] ++ rw_).length c3) (fun _ => True) trivial)
               clear ho3 hb3)
            | (at_builtin
               refine slMx.wpList_append rfl (.tmp 33) (.tmp 40) rfl 0 rfl rfl HRow.out HCl.out rfl (fun x hx => by rw [List.mem_singleton.1 hx]; rfl) (by have := HT1.out; omega) (Nat.zero_le _) ?_
               intro v4 w4 ho4 hg4 ha4
               have HNx := Lib.hid (HO.out.push1 HB3.out HO3.out rfl (fun b hb => Nat.le_trans HBw.out.size hb) ho4 hg4 ha4)
               have HNb := Lib.hid (below_push (w := w1) HO.out HBw.out HBY.out hg4)
               clear ho4 hg4 ha4))
          exact ⟨⟨k + 1, _, by omega, by go_num, by rw [HSn.out]; exact HNx.out, HNb.out⟩, by simp [intOf]; omega⟩
        · obtain rfl : k = A.length := by omega
          have e1 : decide ((A.length : Int) < (A.length : Int)) = false := decide_eq_false (by omega)
          obtain ⟨ml, cl, ul, rfl, hcl1, hcl2, _, _, _, hkl, _, _⟩ := ho.at_ (tabM_at (show 0 < A.length by omega) A.length (ofL A))
          clear hkl
          rw [tabM_len] at hcl1 HO
          rw [tabM_len]
          have HU := Lib.hid (runit_any wr A.length hn1 hn2)
          clear ho hb
          go_wp2_with fail
          refine HU.out.mono ?_
          rintro e w2 ⟨vr, usr, rfl, ho2, hb2⟩
          obtain ⟨mr, cr, ur, rfl, hcr1, hcr2, _, _, _, hkr, _, _⟩ := ho2.at_ (tabM_at (show 0 < A.length by omega) A.length unitF)
          clear hkr
          rw [tabM_len] at hcr1
          have hG : RiS w2 (fun k => w1.heap.size ≤ k ∧ k < wr.heap.size) (fun k => wr.heap.size ≤ k) ml mr A.length cl cr us usr (ofL A) unitF := by
            rw [tabM_len] at ho2
            exact ⟨(HO.out.mono fun k h1 h2 => ⟨h2, h1⟩).below hb2, ho2, fun k h1 h2 => by omega⟩
          rw [tabM_len]
          have HG := Lib.hid hG
          have HB2 := Lib.hid (HBw.out.trans (hb2.mono HBw.out.size))
          have HWs : Hid (w1.heap.size ≤ wr.heap.size) := Lib.hid HBw.out.size
          generalize wr.heap.size = su at *
          clear ho2 hb2 hG e1
          go_wp2_with fail
          go_loopw [9, 10, 11, 12, 13] (fun i y1 y2 y3 y4 wi => ∃ (c : Nat) (a o : MtF) (usl usr : List Value), c ≤ A.length ∧ i = .int .i64 (c : Int) ∧ GaussI A.length (ofL A) a o c ∧ RiS wi (fun k => w1.heap.size ≤ k ∧ k < su) (fun k => su ≤ k) ml mr A.length cl cr usl usr a o ∧ Below w1.heap.size w1 wi) (fun i _ _ _ _ _ => A.length - (intOf i).toNat)
          case atStart => exact ⟨0, _, _, us, usr, by omega, rfl, GaussI.start _ _, HG.out, HB2.out⟩
          case round =>
            obtain ⟨c, a, o, usl, usr2, hc, rfl, hgi, hg, hb⟩ := hrel
            have HGi := Lib.hid hgi
            have HGs := Lib.hid hg
            have HBw := Lib.hid hb
            by_cases hlt : c < A.length
            · have e1 : decide ((c : Int) < (A.length : Int)) = true := decide_eq_true (by omega)
              have e2 : decide (c < A.length) = true := decide_eq_true hlt
              clear hgi hg hb
              go_wp2_with fail
              go_loop [10] (fun f => ∃ p : Nat, c ≤ p ∧ p ≤ A.length ∧ f = .int .i64 (p : Int) ∧ ∀ r, c ≤ r → r < p → a r c = 0#8) (fun f => A.length - (intOf f).toNat)
              case atStart => exact ⟨c, Nat.le_refl _, hc, rfl, fun r h1 h2 => by omega⟩
              case round =>
                obtain ⟨p, hp1, hp2, rfl, hz⟩ := hrel
                have HZ := Lib.hid hz
                clear hz
                by_cases hpl : p < A.length
                · have f1 : decide ((p : Int) < (A.length : Int)) = true := decide_eq_true (by omega)
                  have f2 : decide (p < A.length) = true := decide_eq_true hpl
                  obtain ⟨gp, cp, hup, k1, fr1, hcell1⟩ := HGs.out.l.rowAt hpl (by omega)
                  have k2 := hcell1 c hlt
                  have q0 := nat_eq0 (a p c)
                  by_cases h0 : a p c = 0#8
                  · rw [decide_eq_true h0] at q0
                    have HZ2 : Hid (∀ r, c ≤ r → r < p + 1 → a r c = 0#8) := Lib.hid (fun r h1 h2 => by
                      rcases Nat.lt_or_ge r p with h | h
                      · exact HZ.out r h1 h
                      · obtain rfl : r = p := by omega
                        exact h0)
                    clear h0 hup fr1 hcell1
                    go_wp2_with fail
                    exact ⟨⟨p + 1, by omega, by omega, by go_num, HZ2.out⟩, by simp [intOf]; omega⟩
                  · rw [decide_eq_false h0] at q0
                    obtain ⟨gc, cc, huc, k3, fr3, hcell3⟩ := HGs.out.l.rowAt hlt (by omega)
                    obtain ⟨gp', cp', hup', k5, fr5, hcell5⟩ := HGs.out.r.rowAt hpl (by omega)
                    obtain ⟨gc', cc', huc', k7, fr7, hcell7⟩ := HGs.out.r.rowAt hlt (by omega)
                    obtain ⟨W1, hW1⟩ : ∃ W1, ((wr.setCell ⟨ml, c, none⟩ (.slice (some ⟨gp, 0, none⟩) A.length cp)).setCell ⟨ml, p, none⟩ (.slice (some ⟨gc, 0, none⟩) A.length cc)).drew = W1 := ⟨_, rfl⟩
                    obtain ⟨y1, hy1⟩ := set_there (v := .slice (some ⟨gp, 0, none⟩) A.length cp) (i := c) k1
                    have fy1 := set_frozen (v := .slice (some ⟨gp, 0, none⟩) A.length cp) (i := c) fr1
                    have hf1 : Fr (fun k => k = ml) wr W1 := by
                      rw [← hW1]
                      exact ((Fr.setCell (fun k => k = ml) wr (p := ⟨ml, c, none⟩) rfl _).then (Fr.setCell (fun k => k = ml) _ (p := ⟨ml, p, none⟩) rfl _)).drew
                    have hGml : w1.heap.size ≤ ml ∧ ml < su := HGs.out.l.blk ml rfl
                    have hg1 : RiS W1 (fun k => w1.heap.size ≤ k ∧ k < su) (fun k => su ≤ k) ml mr A.length cl cr ((usl.set c (.slice (some ⟨gp, 0, none⟩) A.length cp)).set p (.slice (some ⟨gc, 0, none⟩) A.length cc)) usr2 (swF c p a) o :=
                      HGs.out.left (by rw [← hW1]; exact (HGs.out.l.swap hlt hpl huc hup).below (below_drew (Below.refl _ _))) (hf1.mono fun k _ e => by rw [e]; exact hGml)
                    obtain ⟨gp1, cp1, hup1, k51, fr51, _⟩ := hg1.r.rowAt hpl (by omega)
                    obtain ⟨gc1, cc1, huc1, k71, fr71, _⟩ := hg1.r.rowAt hlt (by omega)
                    obtain ⟨W2, hW2⟩ : ∃ W2, ((W1.setCell ⟨mr, c, none⟩ (.slice (some ⟨gp1, 0, none⟩) A.length cp1)).setCell ⟨mr, p, none⟩ (.slice (some ⟨gc1, 0, none⟩) A.length cc1)).drew = W2 := ⟨_, rfl⟩
                    obtain ⟨y2, hy2⟩ := set_there (v := .slice (some ⟨gp1, 0, none⟩) A.length cp1) (i := c) k51
                    have fy2 := set_frozen (v := .slice (some ⟨gp1, 0, none⟩) A.length cp1) (i := c) fr51
                    have hf2 : Fr (fun k => k = mr) W1 W2 := by
                      rw [← hW2]
                      exact ((Fr.setCell (fun k => k = mr) W1 (p := ⟨mr, c, none⟩) rfl _).then (Fr.setCell (fun k => k = mr) _ (p := ⟨mr, p, none⟩) rfl _)).drew
                    have hGmr : su ≤ mr := hg1.r.blk mr rfl
                    have hg2 : RiS W2 (fun k => w1.heap.size ≤ k ∧ k < su) (fun k => su ≤ k) ml mr A.length cl cr ((usl.set c (.slice (some ⟨gp, 0, none⟩) A.length cp)).set p (.slice (some ⟨gc, 0, none⟩) A.length cc)) ((usr2.set c (.slice (some ⟨gp1, 0, none⟩) A.length cp1)).set p (.slice (some ⟨gc1, 0, none⟩) A.length cc1)) (swF c p a) (swF c p o) :=
                      hg1.right (by rw [← hW2]; exact (hg1.r.swap hlt hpl huc1 hup1).below (below_drew (Below.refl _ _))) (hf2.mono fun k _ e => by rw [e]; exact hGmr)
                    generalize (usl.set c (.slice (some ⟨gp, 0, none⟩) A.length cp)).set p (.slice (some ⟨gc, 0, none⟩) A.length cc) = usl2 at *
                    generalize (usr2.set c (.slice (some ⟨gp1, 0, none⟩) A.length cp1)).set p (.slice (some ⟨gc1, 0, none⟩) A.length cc1) = usr3 at *
                    obtain ⟨g3, c3, hu3, m1, _, hm1⟩ := hg2.l.rowAt hlt (by omega)
                    have m2 := hm1 c hlt
                    have hsw : swF c p a c c = a p c := by
                      unfold swF
                      rw [if_pos rfl]
                    rw [hsw] at m2
                    have HI := Lib.hid (rinv_any W2 (a p c))
                    have HSc := Lib.hid (rscale_row W2 _ _ _ _ A.length c (invG (a p c)) _ hg2.l hlt hu3 hn2)
                    have HG2 := Lib.hid hg2
                    have HB2 : Hid (Below w1.heap.size w1 W2) := Lib.hid (HBw.out.trans ((hf1.below HBw.out.size fun k hk e => by omega).trans (hf2.below (Nat.le_trans HBw.out.size hf1.size) fun k hk e => by omega)))
                    have HP0 := Lib.hid (HGi.out.step hlt hp1 hpl h0)
                    have zn : ((p : Int) == (A.length : Int)) = false := by simp; omega
                    have zn2 : (p == A.length) = false := by simp; omega
                    clear hup huc hup' huc' hcell1 hcell3 hcell5 hcell7 h0 hf1 hGml hg1 hup1 huc1 hf2 hGmr hg2 hu3 hm1 hsw k5 k7 fr5 fr7
                    generalize invG (a p c) = xi at *
                    go_wp2_with fail
                    go_region
                    go_wp2_with fail
                    go_region
                    go_wp2_with fail
                    refine HI.out.mono ?_
                    rintro e w' ⟨rfl, rfl⟩
                    go_wp2_with fail
                    refine HSc.out.mono ?_
                    rintro e w3 ⟨rfl, ho3, hf3⟩
                    have hg3 := HG2.out.left ho3 hf3
                    obtain ⟨g4, c4, hu4, m4, _, _⟩ := hg3.r.rowAt hlt (by omega)
                    have HSd := Lib.hid (rscale_row w3 _ _ _ _ A.length c xi _ hg3.r hlt hu4 hn2)
                    have HG3 := Lib.hid hg3
                    have HB3 := Lib.hid (HB2.out.trans (hf3.below HB2.out.size fun k hk e => by have := e.1; omega))
                    clear ho3 hf3 hg3 hu4 m1 m2
                    go_wp2_with fail
                    refine HSd.out.mono ?_
                    rintro e w4 ⟨rfl, ho4, hf4⟩
                    have HG4 := Lib.hid (HG3.out.right ho4 hf4)
                    have HB4 := Lib.hid (HB3.out.trans (hf4.below HB3.out.size fun k hk e => by have := HWs.out; omega))
                    generalize scF c xi (swF c p a) = a1 at *
                    generalize scF c xi (swF c p o) = o1 at *
                    clear ho4 hf4 m4
                    go_wp2_with fail
                    go_loopw [12, 13] (fun i y wi => ∃ k : Nat, k ≤ A.length ∧ i = .int .i64 (k : Int) ∧ RiS wi (fun k => w1.heap.size ≤ k ∧ k < su) (fun k => su ≤ k) ml mr A.length cl cr usl2 usr3 (mixF k c a1 a1) (mixF k c a1 o1) ∧ Below w1.heap.size w1 wi) (fun i _ _ => A.length - (intOf i).toNat)
                    case atStart => exact ⟨0, by omega, rfl, by rw [mixF_zero, mixF_zero]; exact HG4.out, HB4.out⟩
                    case round =>
                      obtain ⟨k, hk, rfl, hg, hb⟩ := hrel
                      have HGs := Lib.hid hg
                      have HBw := Lib.hid hb
                      by_cases hkl : k < A.length
                      · have f3 : decide ((k : Int) < (A.length : Int)) = true := decide_eq_true (by omega)
                        have f4 : decide (k < A.length) = true := decide_eq_true hkl
                        by_cases hkc : k = c
                        · have z1 : ((k : Int) == (c : Int)) = true := by rw [hkc]; simp
                          have z2 : (k == c) = true := by rw [hkc]; simp
                          have z3 : ((k : Int) != (c : Int)) = false := by rw [hkc]; simp
                          have z4 : (k != c) = false := by rw [hkc]; simp
                          have HM := Lib.hid (And.intro (mixF_skip a1 a1 hkc) (mixF_skip a1 o1 hkc))
                          clear hkc hg hb
                          go_wp2_with fail
                          exact ⟨⟨k + 1, by omega, by go_num, by rw [HM.out.1, HM.out.2]; exact HGs.out, HBw.out⟩, by simp [intOf]; omega⟩
                        · have z1 : ((k : Int) == (c : Int)) = false := by simp; omega
                          have z2 : (k == c) = false := by simp; omega
                          have z3 : ((k : Int) != (c : Int)) = true := by simp; omega
                          have z4 : (k != c) = true := by simp; omega
                          obtain ⟨g5, c5, hu5, m5, _, hm5⟩ := hg.l.rowAt hkl (by omega)
                          have m6 := hm5 c hlt
                          rw [mixF_own] at m6
                          have q5 := nat_eq0 (a1 k c)
                          by_cases hn0 : a1 k c = 0#8
                          · rw [decide_eq_true hn0] at q5
                            have HM := Lib.hid (And.intro (mixF_nil a1 a1 hn0) (mixF_nil a1 o1 hn0))
                            clear hn0 hg hb hm5 hu5
                            go_wp2_with fail
                            exact ⟨⟨k + 1, by omega, by go_num, by rw [HM.out.1, HM.out.2]; exact HGs.out, HBw.out⟩, by simp [intOf]; omega⟩
                          · rw [decide_eq_false hn0] at q5
                            have HM := Lib.hid (And.intro (mixF_next a1 a1 hkc) (mixF_next a1 o1 hkc))
                            obtain ⟨g6, c6, hu6, m7, _, _⟩ := hg.l.rowAt hlt (by omega)
                            have HMx := Lib.hid (rmix_row wr.drew _ _ _ _ _ A.length k c (a1 k c) _ (hg.below (below_drew (Below.refl _ _))).l hkl hlt hkc hu5 hu6 hn2)
                            have HKc := Lib.hid hkc
                            generalize a1 k c = y at *
                            clear hn0 hg hb hm5 hu5 hu6 hkc
                            go_wp2_with fail
                            refine wp_region_quiet_tail 9 (by kernel_rfl) (by kernel_rfl) ?_
                            simp only [List.take_succ_cons, List.take_zero, List.drop_succ_cons, List.drop_zero]
                            repeat (go_big_quiet_step (fail))
                            refine wpQuiet_nil ?_
                            go_wp2_with fail
                            refine HMx.out.mono ?_
                            rintro e w5 ⟨rfl, ho5, hf5'⟩
                            have hf5 : Fr (fun k => w1.heap.size ≤ k ∧ k < su) wr w5 := ⟨hf5'.os, hf5'.tape, hf5'.output, hf5'.size, hf5'.block⟩
                            rw [HM.out.1] at ho5
                            have hg5 := HGs.out.left ho5 hf5
                            obtain ⟨g7, c7, hu7, m8, _, _⟩ := hg5.r.rowAt hkl (by omega)
                            obtain ⟨g8, c8, hu8, m9, _, _⟩ := hg5.r.rowAt hlt (by omega)
                            have HMy := Lib.hid (rmix_row w5.drew _ _ _ _ _ A.length k c y _ (hg5.below (below_drew (Below.refl _ _))).r hkl hlt HKc.out hu7 hu8 hn2)
                            have HG5 := Lib.hid hg5
                            have HB5 := Lib.hid (HBw.out.trans (hf5.below HBw.out.size fun k hk e => by have := e.1; omega))
                            clear ho5 hf5 hf5' hg5 hu7 hu8 m5 m6 m7
                            go_wp2_with fail
                            refine wp_region_quiet_tail 9 (by kernel_rfl) (by kernel_rfl) ?_
                            simp only [List.take_succ_cons, List.take_zero, List.drop_succ_cons, List.drop_zero]
                            repeat (go_big_quiet_step (fail))
                            refine wpQuiet_nil ?_
                            go_wp2_with fail
                            refine HMy.out.mono ?_
                            rintro e w6 ⟨rfl, ho6, hf6'⟩
                            have hf6 : Fr (fun k => su ≤ k) w5 w6 := ⟨hf6'.os, hf6'.tape, hf6'.output, hf6'.size, hf6'.block⟩
                            rw [HM.out.2] at ho6
                            have HG6 := Lib.hid (HG5.out.right ho6 hf6)
                            have HB6 := Lib.hid (HB5.out.trans (hf6.below HB5.out.size fun k hk e => by have := HWs.out; omega))
                            clear ho6 hf6 hf6' m8 m9
                            go_wp2_with fail
                            exact ⟨⟨k + 1, by omega, by go_num, HG6.out, HB6.out⟩, by simp [intOf]; omega⟩
                      · obtain rfl : k = A.length := by omega
                        have f3 : decide ((A.length : Int) < (A.length : Int)) = false := decide_eq_false (by omega)
                        clear hg hb
                        go_wp2_with fail
                        exact ⟨⟨c + 1, _, _, usl2, usr3, by omega, by go_num, HP0.out, HGs.out, HBw.out⟩, by simp [intOf]; omega⟩
                · obtain rfl : p = A.length := by omega
                  have f1 : decide ((A.length : Int) < (A.length : Int)) = false := decide_eq_false (by omega)
                  have HN := Lib.hid (inverseR_sing HQ.out (gauss_sing HGi.out hlt HZ.out))
                  go_wp2_with fail
                  refine Go.bodyPost_ret (Go.results_tmp2 rfl _ _ _) rfl ?_
                  rw [HN.out, ← HSz.out]
                  have hbz : Below w1.heap.size w wr := by have h := HBw1.out; rw [← HSz.out] at h; exact h.trans HBw.out
                  first | exact ⟨_, [], rfl, OwL.nil _ _, hbz⟩ | exact ⟨_, rfl, ⟨[], OwL.nil _ _⟩, hbz⟩
            · obtain rfl : c = A.length := by omega
              have HN := Lib.hid (inverseR_yes HQ.out (gauss_inv HGi.out))
              clear hgi hg hb
              go_wp2_with fail
              refine Go.bodyPost_ret (Go.results_tmp2 rfl _ _ _) rfl ?_
              rw [HN.out, ← HSz.out]
              exact ⟨_, usr2, rfl, HGs.out.r.mono fun x _ h => Nat.le_trans HWs.out h, by have h := HBw1.out; rw [← HSz.out] at h; exact h.trans HBw.out⟩
    · have z1 : ((A.length : Int) == (colsL A : Int)) = false := by simp; omega
      have z2 : (A.length == colsL A) = false := by simp; omega
      have HN := Lib.hid (inverseR_no (A := A) (fun h => hq h.2))
      clear qa ga hq
      go_wp2_with fail
      refine Go.bodyPost_ret (Go.results_tmp2 rfl _ _ _) rfl ?_
      rw [HN.out]
      exact ⟨_, [], rfl, OwL.nil _ _, HBw1.out⟩
end Go.Proofs.Ytjojimmfjmchcaa
