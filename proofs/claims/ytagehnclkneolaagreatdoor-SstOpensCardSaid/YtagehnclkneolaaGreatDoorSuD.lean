/-
  The walk over the reference's entries.
-/
import Derived.Test.YtagehnclkneolaaGreatDoorGUa
namespace Go.Proofs.YtagehnclkneolaaGreatDoor
open Go.RowKit

/-- What the reference's entries tells. -/
def EntsT (base : Nat) (L : List Ent) (p : List UInt8) (x : Ending) (w' : World) : Prop :=
  (entR p L = none ∧ x = .returned (.tuple #[.slice none 0 0, .bool false])) ∨
  (∃ es pe ce us, entR p L = some es ∧ x = .returned (.tuple #[.slice pe (L ++ es).length ce, .bool true]) ∧ EnR w' base (.slice pe (L ++ es).length ce) (L ++ es) us ∧ wgt es ≤ 31 * p.length ∧ ∀ e ∈ es, e.seq < 18446744073709551616)

set_option maxRecDepth 100000 in
set_option maxHeartbeats 4000000 in
theorem refEntries_any (w : World) (base B : Nat) (pv : Value) (p : List UInt8) (pe0 : Option Addr) (ce0 : Nat) (us : List Value) (L : List Ent)
    (hp : Rd w B pv p) (hB : B ≤ base) (hE : EnR w base (.slice pe0 L.length ce0) L us) (hbase : base ≤ w.heap.size) (hR : rightE L = true)
    (hpl : p.length ≤ 67108864) (hw : wgt L ≤ 1099511627776) :
    Calls Tryz.prog 46 #[pv, .slice pe0 L.length ce0] w fun x w' => EntsT base L p x w' ∧ Fr (fun k => (Value.slice pe0 L.length ce0).ownBlock = some k) w w' := by
  obtain ⟨q0, c0, rfl⟩ := bytes_val hp
  have HP := Lib.hid hp
  have HE := Lib.hid hE
  have HW := Lib.hid hw
  have HBa := Lib.hid hbase
  by_cases h0 : p = []
  · subst h0
    clear hp hE
    go_enter Tryz.func46, Tryz.ntmps46
    go_wp2_with fail
    refine Go.bodyPost_ret (Go.results_tmp2 rfl _ _ _) rfl ?_
    exact ⟨.inl ⟨rfl, rfl⟩, Fr.refl _ _⟩
  · have hp0 := List.length_pos_iff.2 h0
    have hpl0 : ((p.length : Int) == 0) = false := by rw [beq_eq_false_iff_ne]; omega
    have hpln : (p.length == 0) = false := by rw [beq_eq_false_iff_ne]; omega
    have HP0 := Lib.hid h0
    have HStart : Hid (EnsR w base (.slice pe0 L.length ce0) L p w 0 [] L.length pe0 ce0 us) := Lib.hid ⟨by simp, by rw [List.append_nil]; exact hE, Fr.refl _ _, .inl rfl, by rw [List.drop_zero]; cases scA p <;> rfl, by omega, by rw [List.append_nil]; exact hR, by simp [wgt], by simp⟩
    clear hp hE h0
    go_enter Tryz.func46, Tryz.ntmps46
    go_wp2_with fail
    clear hpl0 hpln
    go_loopw [1, 6] (fun l i wr => ∃ (a : Nat) (done : List Ent) (n : Nat) (pe : Option Addr) (ce : Nat) (vs : List Value), i = .int .i64 (a : Int) ∧ l = .slice pe n ce ∧ EnsR w base (.slice pe0 L.length ce0) L p wr a done n pe ce vs) (fun _ i _ => p.length - (intOf i).toNat)
    case atStart => exact ⟨0, [], L.length, pe0, ce0, us, rfl, rfl, HStart.out⟩
    case round =>
      obtain ⟨a, done, n, pe, ce, vs, rfl, rfl, hk⟩ := hrel
      generalize wr = wz at *
      have HK := Lib.hid hk
      have hal := hk.le
      have hbz : Below base w wz := hk.fr.below hbase (fun k hlt e => by have := row_low HE.out.row k e; omega)
      have HPz := Lib.hid (HP.out.under hbz hB)
      have HBz : Hid (base ≤ wz.heap.size) := Lib.hid (Nat.le_trans hbase hbz.size)
      clear hbz hk
      by_cases hlt : a < p.length
      · have d1 : decide ((a : Int) < (p.length : Int)) = true := decide_eq_true (by omega)
        obtain ⟨r, hr⟩ : ∃ r, p.drop a = r := ⟨_, rfl⟩
        have hrl : r.length = p.length - a := by rw [← hr, List.length_drop]
        have HR := Lib.hid hr
        have HR0 : Hid (r ≠ []) := Lib.hid (fun e => by rw [e] at hrl; simp at hrl; omega)
        have HNo : Hid ((scE r).2.2 = true → entR p L = none) := Lib.hid (fun h => entR_bad (by rw [HK.out.par, HR.out, scA_bad HR0.out h]; rfl))
        have HFr := Lib.hid HK.out.fr
        obtain ⟨q1, c1, ht1, hs1⟩ := tail_run (n := a) HPz.out (by omega)
        rw [hr] at ht1
        have hc1 := refReadBytes_any _ r 65535 65535 B wz ht1 (by omega) (by omega) rfl
        have hrd1 : ∀ m, m ≤ r.length → p.drop (a + m) = r.drop m := fun m _ => by rw [← HR.out, List.drop_drop]
        have HD := Lib.hid hrd1
        have HRl := Lib.hid hrl
        clear ht1 hr hrd1 hrl
        rcases rdBytes_form r 65535 with ⟨k, n1, hb1, hn1, hn1l, hk1⟩ | ⟨e, hb1, he⟩
        · rw [hb1] at hc1
          have HC1 := Lib.hid hc1
          have HB1 := Lib.hid hb1
          have HN1 := Lib.hid hn1l
          have hn1p : a + n1 ≤ p.length := by have := HRl.out; omega
          clear hc1 hb1 hn1l hn1 hk1
          go_wp2_with fail
          refine HC1.out.mono ?_
          rintro y w1 ⟨v1, rfl, hv1, rfl⟩
          obtain ⟨qk, ck, rfl⟩ := bytes_val hv1
          have HV1 := Lib.hid hv1
          obtain ⟨q2, c2, ht2, hs2⟩ := tail_run (n := a + n1) HPz.out (by omega)
          rw [HD.out n1 HN1.out] at ht2
          have hc2 := refReadNumber_any _ (r.drop n1) B wz ht2
          rw [show ((a + n1 : Nat) : Int) = (a : Int) + (n1 : Int) by omega] at hs2
          have hnl := rdNum_len (r.drop n1)
          rw [List.length_drop] at hnl
          clear hv1 ht2
          rcases rdNum_form (r.drop n1) with ⟨v, n2, hb2, _⟩ | hb2 | hb2
          · rw [hb2] at hc2 hnl
            simp only at hnl
            obtain ⟨hn2, hv2⟩ := hnl
            have hn2p : a + n1 + n2 ≤ p.length := by have := HRl.out; omega
            have HN2 := Lib.hid hn2
            clear hn2
            have HC2 := Lib.hid hc2
            have HB2 := Lib.hid hb2
            clear hc2 hb2
            go_wp2_with fail
            refine HC2.out.mono ?_
            rintro y w1 ⟨rfl, rfl⟩
            by_cases hlt3 : a + n1 + n2 < p.length
            · have d3 : decide ((p.length : Int) ≤ (a : Int) + (n1 : Int) + (n2 : Int)) = false := decide_eq_false (by omega)
              obtain ⟨qx, cx, hqx, _, _, _, hat⟩ := HPz.out.form
              obtain ⟨rfl, rfl⟩ : q0 = qx ∧ c0 = cx := by simpa using hqx
              obtain ⟨b, off, x, rfl, hb, hx, hcx⟩ := hat (a + n1 + n2) hlt3
              have hxr : r[n1 + n2]? = some x := by rw [← HR.out, List.getElem?_drop, ← Nat.add_assoc]; exact hx
              have HX := Lib.hid hxr
              clear hat hx hxr hqx
              by_cases hx1 : 1 < x.toNat
              · have hno := HNo.out (scE_g1 HB1.out HB2.out HX.out hx1)
                have d4 : decide ((1 : Int) < (x.toNat : Int)) = true := decide_eq_true (by omega)
                clear hx1
                go_wp2_with fail
                refine Go.bodyPost_ret (Go.results_tmp2 rfl _ _ _) rfl ?_
                exact ⟨.inl ⟨hno, rfl⟩, HFr.out⟩
              · have d4 : decide ((1 : Int) < (x.toNat : Int)) = false := decide_eq_false (by omega)
                obtain ⟨gb, hgb⟩ : ∃ gb, ((x.toNat : Int) == 1) = gb := ⟨_, rfl⟩
                have HGb : Hid ((x.toNat == 1) = gb) := Lib.hid (by rw [← hgb, Bool.eq_iff_iff, beq_iff_eq, beq_iff_eq]; omega)
                have HX1 := Lib.hid hx1
                obtain ⟨q3, c3, ht3, hs3⟩ := tail_run (n := a + n1 + n2 + 1) HPz.out (by omega)
                rw [show a + n1 + n2 + 1 = a + (n1 + n2 + 1) by omega, HD.out (n1 + n2 + 1) (by have := HRl.out; omega), show p.length - (a + (n1 + n2 + 1)) = (r.drop (n1 + n2 + 1)).length by rw [List.length_drop]; have := HRl.out; omega] at ht3
                rw [show p.length - (a + n1 + n2 + 1) = (r.drop (n1 + n2 + 1)).length by rw [List.length_drop]; have := HRl.out; omega, show ((a + n1 + n2 + 1 : Nat) : Int) = (a : Int) + (n1 : Int) + (n2 : Int) + 1 by omega] at hs3
                have hc3 := refReadBytes_any _ (r.drop (n1 + n2 + 1)) 33554432 33554432 B wz ht3 (by omega) (by omega) rfl
                have hfm := rdBytes_form (r.drop (n1 + n2 + 1)) 33554432
                have hdl : a + n1 + n2 + 1 + (r.drop (n1 + n2 + 1)).length ≤ p.length := by rw [List.length_drop]; have := HRl.out; omega
                generalize hrd : r.drop (n1 + n2 + 1) = r3 at *
                have HRd := Lib.hid hrd
                clear ht3 hrd hx1
                rcases hfm with ⟨u, n3, hb3, hn3, hn3l, hu3⟩ | ⟨e, hb3, he⟩
                · rw [hb3] at hc3
                  have HC3 := Lib.hid hc3
                  have hn3p : a + n1 + n2 + 1 + n3 ≤ p.length := by omega
                  have HEq : Hid (scE r = (⟨k, v, gb, u⟩, (r.drop (n1 + n2 + 1 + n3), false))) := Lib.hid (by
                    have := scE_ok HB1.out HB2.out HX.out HX1.out (by rw [HRd.out]; exact hb3)
                    rw [HGb.out] at this
                    exact this)
                  clear hc3 hb3 hn3 hn3l
                  go_wp2_with fail
                  refine HC3.out.mono ?_
                  rintro y w1 ⟨v3, rfl, hv3, rfl⟩
                  obtain ⟨q4, c4, rfl⟩ := bytes_val hv3
                  have HV3 := Lib.hid hv3
                  clear hv3 hs1 hs2 hs3 HC1 HC2 HC3
                  clear hcx
                  go_wp2_with fail
                  go_upto_region 20 with (fail)
                  go_cut [13] (fun s wx => ∃ xb q9 c9, s = .pointer (some ⟨xb, 0, none⟩) ∧ Hid (wx.heap[xb]? = some (.cells #[.string ⟨k.toArray⟩, .int .u64 (v : Int), .bool gb, .slice q9 u.length c9] 37 (0, 0)) ∧ Own wx wz.heap.size (.slice q9 u.length c9) u ∧ Below wz.heap.size wz wx))
                  case first =>
                    have hTx : ∀ W, Below wz.heap.size wz W → (convert 22 9 (.slice qk k.length ck)).run Tryz.prog W = .ok (.string ⟨k.toArray⟩) W := fun W hW => txt_run (HV1.out.under hW (Nat.le_trans hB HBz.out))
                    have hb0 : Below wz.heap.size wz wz.drew := below_drew (Below.refl _ _)
                    have hbA : Below wz.heap.size wz (wz.drew.alloc (.cells #[] 5)) := hb0.alloc (Nat.le_refl _) _
                    have hbB : Below wz.heap.size wz (wz.drew.alloc (.cells #[.string ⟨#[]⟩, .int .u64 0, .bool false, .slice none 0 0] 37)) := hb0.alloc (Nat.le_refl _) _
                    have hbAB : Below wz.heap.size wz ((wz.drew.alloc (.cells #[] 5)).alloc (.cells #[.string ⟨#[]⟩, .int .u64 0, .bool false, .slice none 0 0] 37)) := hbA.alloc hbA.size _
                    have hbBA : Below wz.heap.size wz ((wz.drew.alloc (.cells #[.string ⟨#[]⟩, .int .u64 0, .bool false, .slice none 0 0] 37)).alloc (.cells #[] 5)) := hbB.alloc hbB.size _
                    have hBy : By wz (fun k => k < wz.heap.size) (.slice q4 u.length c4) u := By.of_rd HV3.out (Nat.le_trans hB HBz.out) (fun k hk => Nat.lt_of_lt_of_le hk (Nat.le_trans hB HBz.out))
                    have oA : Own (wz.drew.alloc (.cells #[] 5)) wz.heap.size (.slice (some ⟨wz.heap.size, 0, none⟩) 0 0) [] := own_new0' wz.drew
                    have oAB : Own ((wz.drew.alloc (.cells #[] 5)).alloc (.cells #[.string ⟨#[]⟩, .int .u64 0, .bool false, .slice none 0 0] 37)) wz.heap.size (.slice (some ⟨wz.heap.size, 0, none⟩) 0 0) [] := oA.keep fun k hk => alloc_old (World.ownsRow.lt oA k hk).2 _
                    have oBA : Own ((wz.drew.alloc (.cells #[.string ⟨#[]⟩, .int .u64 0, .bool false, .slice none 0 0] 37)).alloc (.cells #[] 5)) wz.heap.size (.slice (some ⟨wz.heap.size + 1, 0, none⟩) 0 0) [] := by
                      have h1 := own_new0' (wz.drew.alloc (.cells #[.string ⟨#[]⟩, .int .u64 0, .bool false, .slice none 0 0] 37))
                      rw [show (wz.drew.alloc (.cells #[.string ⟨#[]⟩, .int .u64 0, .bool false, .slice none 0 0] 37)).heap.size = wz.heap.size + 1 by simp] at h1
                      exact h1.more (by omega)
                    have zAB : ((wz.drew.alloc (.cells #[] 5)).alloc (.cells #[.string ⟨#[]⟩, .int .u64 0, .bool false, .slice none 0 0] 37)).heap[wz.heap.size + 1]? = some ent0 := by
                      have h1 := heap_alloc_new (wz.drew.alloc (.cells #[] 5)) (.cells #[.string ⟨#[]⟩, .int .u64 0, .bool false, .slice none 0 0] 37)
                      rw [show (wz.drew.alloc (.cells #[] 5)).heap.size = wz.heap.size + 1 by simp] at h1
                      exact h1
                    have zB : (wz.drew.alloc (.cells #[.string ⟨#[]⟩, .int .u64 0, .bool false, .slice none 0 0] 37)).heap[wz.heap.size]? = some ent0 := heap_alloc_new wz.drew (.cells #[.string ⟨#[]⟩, .int .u64 0, .bool false, .slice none 0 0] 37)
                    have zBA : ((wz.drew.alloc (.cells #[.string ⟨#[]⟩, .int .u64 0, .bool false, .slice none 0 0] 37)).alloc (.cells #[] 5)).heap[wz.heap.size]? = some ent0 := (alloc_old (by simp) _).trans zB
                    have t0 := hTx wz.drew hb0
                    have t1 := hTx (wz.drew.alloc (.cells #[] 5)) hbA
                    have t2 := hTx (wz.drew.alloc (.cells #[.string ⟨#[]⟩, .int .u64 0, .bool false, .slice none 0 0] 37)) hbB
                    have t3 := hTx ((wz.drew.alloc (.cells #[] 5)).alloc (.cells #[.string ⟨#[]⟩, .int .u64 0, .bool false, .slice none 0 0] 37)) hbAB
                    have t4 := hTx ((wz.drew.alloc (.cells #[.string ⟨#[]⟩, .int .u64 0, .bool false, .slice none 0 0] 37)).alloc (.cells #[] 5)) hbBA
                    have s1 := hTx ((wz.alloc (.cells #[] 5)).drew) (below_drew ((Below.refl _ wz).alloc (Nat.le_refl _) _))
                    have s2 := hTx ((wz.alloc (.cells #[.string ⟨#[]⟩, .int .u64 0, .bool false, .slice none 0 0] 37)).drew) (below_drew ((Below.refl _ wz).alloc (Nat.le_refl _) _))
                    have s3 := hTx (((wz.alloc (.cells #[] 5)).alloc (.cells #[.string ⟨#[]⟩, .int .u64 0, .bool false, .slice none 0 0] 37)).drew) (below_drew (((Below.refl _ wz).alloc (Nat.le_refl _) _).alloc (by simp) _))
                    have s4 := hTx (((wz.alloc (.cells #[.string ⟨#[]⟩, .int .u64 0, .bool false, .slice none 0 0] 37)).alloc (.cells #[] 5)).drew) (below_drew (((Below.refl _ wz).alloc (Nat.le_refl _) _).alloc (by simp) _))
                    have HTx := Lib.hid hTx
                    have hul : 0 + u.length ≤ 68719476736 := by omega
                    have HUl := Lib.hid hul
                    have HA := Lib.hid (And.intro oA (And.intro (hBy.below hbA) hbA))
                    have HAB := Lib.hid (And.intro oAB (And.intro (hBy.below hbAB) hbAB))
                    have HBA := Lib.hid (And.intro oBA (And.intro (hBy.below hbBA) hbBA))
                    have HzAB := Lib.hid zAB
                    have HzBA := Lib.hid zBA
                    have HLen : Hid (∀ x ∈ bs u, x.oneCell' = true) := Lib.hid (fun y hy => by simp [bs] at hy; obtain ⟨_, _, rfl⟩ := hy; rfl)
                    have HUm : Hid ((bs u).length = u.length * 1) := Lib.hid (by rw [bs_length, Nat.mul_one])
                    clear hTx hb0 hbA hbB hbAB hbBA hBy oA oAB oBA zAB zB zBA hul
                    have HPA : Hid (∀ (v' : Value) (w1 : World), w1.ownsRow wz.heap.size 5 1 v' (0 + u.length) ([] ++ bs u) → World.grownBy (wz.drew.alloc (.cells #[] 5)) w1 (Value.slice (some ⟨wz.heap.size, 0, none⟩) 0 0).ownBlock → ∃ p9 c9, v' = .slice p9 u.length c9 ∧ (convert 22 9 (.slice qk k.length ck)).run Tryz.prog w1 = .ok (.string ⟨k.toArray⟩) w1 ∧ (convert 22 9 (.slice qk k.length ck)).run Tryz.prog (w1.alloc (.cells #[.string ⟨#[]⟩, .int .u64 0, .bool false, .slice none 0 0] 37)) = .ok (.string ⟨k.toArray⟩) (w1.alloc (.cells #[.string ⟨#[]⟩, .int .u64 0, .bool false, .slice none 0 0] 37)) ∧ (w1.alloc (.cells #[.string ⟨#[]⟩, .int .u64 0, .bool false, .slice none 0 0] 37)).frozen? ⟨w1.heap.size, 0, none⟩ = false ∧ (w1.alloc (.cells #[.string ⟨#[]⟩, .int .u64 0, .bool false, .slice none 0 0] 37)).frozen? ⟨w1.heap.size, 1, none⟩ = false ∧ (w1.alloc (.cells #[.string ⟨#[]⟩, .int .u64 0, .bool false, .slice none 0 0] 37)).frozen? ⟨w1.heap.size, 2, none⟩ = false ∧ (w1.alloc (.cells #[.string ⟨#[]⟩, .int .u64 0, .bool false, .slice none 0 0] 37)).frozen? ⟨w1.heap.size, 3, none⟩ = false ∧ (w1.alloc (.cells #[.string ⟨#[]⟩, .int .u64 0, .bool false, .slice none 0 0] 37)).cell? ⟨w1.heap.size, 0, none⟩ = some (.string ⟨#[]⟩) ∧ (w1.alloc (.cells #[.string ⟨#[]⟩, .int .u64 0, .bool false, .slice none 0 0] 37)).cell? ⟨w1.heap.size, 1, none⟩ = some (.int .u64 0) ∧ (w1.alloc (.cells #[.string ⟨#[]⟩, .int .u64 0, .bool false, .slice none 0 0] 37)).cell? ⟨w1.heap.size, 2, none⟩ = some (.bool false) ∧ (w1.alloc (.cells #[.string ⟨#[]⟩, .int .u64 0, .bool false, .slice none 0 0] 37)).cell? ⟨w1.heap.size, 3, none⟩ = some (.slice none 0 0) ∧ Hid ((w1.alloc (.cells #[.string ⟨k.toArray⟩, .int .u64 (v : Int), .bool gb, .slice p9 u.length c9] 37)).heap[w1.heap.size]? = some (.cells #[.string ⟨k.toArray⟩, .int .u64 (v : Int), .bool gb, .slice p9 u.length c9] 37 (0, 0)) ∧ Own (w1.alloc (.cells #[.string ⟨k.toArray⟩, .int .u64 (v : Int), .bool gb, .slice p9 u.length c9] 37)) wz.heap.size (.slice p9 u.length c9) u ∧ Below wz.heap.size wz (w1.alloc (.cells #[.string ⟨k.toArray⟩, .int .u64 (v : Int), .bool gb, .slice p9 u.length c9] 37)))) := Lib.hid (fun v' w1 ho1 hg1 => by
                      obtain ⟨p9, c9, rfl, hw1⟩ := ent_app ho1
                      have hb1 : Below wz.heap.size wz w1 := HA.out.2.2.grown (by exact hg1) HA.out.2.2.size (fun k hk => (World.ownsRow.lt HA.out.1 k hk).1)
                      obtain ⟨x0, x1, x2, x3, u0, u1, u2, u3⟩ := ent_facts (heap_alloc_new w1 (.cells #[.string ⟨#[]⟩, .int .u64 0, .bool false, .slice none 0 0] 37))
                      exact ⟨p9, c9, rfl, HTx.out w1 hb1, HTx.out _ (hb1.alloc hb1.size _), x0, x1, x2, x3, u0, u1, u2, u3, Lib.hid ⟨heap_alloc_new w1 _, hw1.keep fun k hk => alloc_old (World.ownsRow.lt hw1 k hk).2 _, hb1.alloc hb1.size _⟩⟩)
                    have HPAB : Hid (∀ (v' : Value) (w1 : World), w1.ownsRow wz.heap.size 5 1 v' (0 + u.length) ([] ++ bs u) → World.grownBy ((wz.drew.alloc (.cells #[] 5)).alloc (.cells #[.string ⟨#[]⟩, .int .u64 0, .bool false, .slice none 0 0] 37)) w1 (Value.slice (some ⟨wz.heap.size, 0, none⟩) 0 0).ownBlock → ∃ p9 c9, v' = .slice p9 u.length c9 ∧ (convert 22 9 (.slice qk k.length ck)).run Tryz.prog w1 = .ok (.string ⟨k.toArray⟩) w1 ∧ w1.frozen? ⟨wz.heap.size + 1, 0, none⟩ = false ∧ w1.frozen? ⟨wz.heap.size + 1, 1, none⟩ = false ∧ w1.frozen? ⟨wz.heap.size + 1, 2, none⟩ = false ∧ w1.frozen? ⟨wz.heap.size + 1, 3, none⟩ = false ∧ w1.cell? ⟨wz.heap.size + 1, 0, none⟩ = some (.string ⟨#[]⟩) ∧ w1.cell? ⟨wz.heap.size + 1, 1, none⟩ = some (.int .u64 0) ∧ w1.cell? ⟨wz.heap.size + 1, 2, none⟩ = some (.bool false) ∧ w1.cell? ⟨wz.heap.size + 1, 3, none⟩ = some (.slice none 0 0) ∧ ∃ X1, (((w1.setCell ⟨wz.heap.size + 1, 0, none⟩ (.string ⟨k.toArray⟩)).setCell ⟨wz.heap.size + 1, 1, none⟩ (.int .u64 (v : Int))).setCell ⟨wz.heap.size + 1, 2, none⟩ (.bool gb)).setCell ⟨wz.heap.size + 1, 3, none⟩ (.slice p9 u.length c9) = X1 ∧ Hid (X1.heap[wz.heap.size + 1]? = some (.cells #[.string ⟨k.toArray⟩, .int .u64 (v : Int), .bool gb, .slice p9 u.length c9] 37 (0, 0)) ∧ Own X1 wz.heap.size (.slice p9 u.length c9) u ∧ Below wz.heap.size wz X1)) := Lib.hid (fun v' w1 ho1 hg1 => by
                      obtain ⟨p9, c9, rfl, hw1⟩ := ent_app ho1
                      have hb1 : Below wz.heap.size wz w1 := HAB.out.2.2.grown (by exact hg1) HAB.out.2.2.size (fun k hk => (World.ownsRow.lt HAB.out.1 k hk).1)
                      have hz : w1.heap[wz.heap.size + 1]? = some ent0 := (hg1.block _ (block_lt HzAB.out) (fun e => by
                        obtain ⟨cur, hc⟩ := HAB.out.1.heap e.symm
                        exact kind_ne HzAB.out hc (by decide) rfl)).trans HzAB.out
                      obtain ⟨x0, x1, x2, x3, u0, u1, u2, u3⟩ := ent_facts hz
                      exact ⟨p9, c9, rfl, HTx.out w1 hb1, x0, x1, x2, x3, u0, u1, u2, u3, _, rfl, Lib.hid (ent_set (.string ⟨k.toArray⟩) (.int .u64 (v : Int)) (.bool gb) hz hw1 hb1 (by omega))⟩)
                    have HPBA : Hid (∀ (v' : Value) (w1 : World), w1.ownsRow wz.heap.size 5 1 v' (0 + u.length) ([] ++ bs u) → World.grownBy ((wz.drew.alloc (.cells #[.string ⟨#[]⟩, .int .u64 0, .bool false, .slice none 0 0] 37)).alloc (.cells #[] 5)) w1 (Value.slice (some ⟨wz.heap.size + 1, 0, none⟩) 0 0).ownBlock → ∃ p9 c9, v' = .slice p9 u.length c9 ∧ (convert 22 9 (.slice qk k.length ck)).run Tryz.prog w1 = .ok (.string ⟨k.toArray⟩) w1 ∧ w1.frozen? ⟨wz.heap.size, 0, none⟩ = false ∧ w1.frozen? ⟨wz.heap.size, 1, none⟩ = false ∧ w1.frozen? ⟨wz.heap.size, 2, none⟩ = false ∧ w1.frozen? ⟨wz.heap.size, 3, none⟩ = false ∧ w1.cell? ⟨wz.heap.size, 0, none⟩ = some (.string ⟨#[]⟩) ∧ w1.cell? ⟨wz.heap.size, 1, none⟩ = some (.int .u64 0) ∧ w1.cell? ⟨wz.heap.size, 2, none⟩ = some (.bool false) ∧ w1.cell? ⟨wz.heap.size, 3, none⟩ = some (.slice none 0 0) ∧ ∃ X1, (((w1.setCell ⟨wz.heap.size, 0, none⟩ (.string ⟨k.toArray⟩)).setCell ⟨wz.heap.size, 1, none⟩ (.int .u64 (v : Int))).setCell ⟨wz.heap.size, 2, none⟩ (.bool gb)).setCell ⟨wz.heap.size, 3, none⟩ (.slice p9 u.length c9) = X1 ∧ Hid (X1.heap[wz.heap.size]? = some (.cells #[.string ⟨k.toArray⟩, .int .u64 (v : Int), .bool gb, .slice p9 u.length c9] 37 (0, 0)) ∧ Own X1 wz.heap.size (.slice p9 u.length c9) u ∧ Below wz.heap.size wz X1)) := Lib.hid (fun v' w1 ho1 hg1 => by
                      obtain ⟨p9, c9, rfl, hw1⟩ := ent_app ho1
                      have hb1 : Below wz.heap.size wz w1 := HBA.out.2.2.grown (by exact hg1) HBA.out.2.2.size (fun k hk => (World.ownsRow.lt HBA.out.1 k hk).1)
                      have hz : w1.heap[wz.heap.size]? = some ent0 := (hg1.block _ (block_lt HzBA.out) (fun e => by
                        obtain ⟨cur, hc⟩ := HBA.out.1.heap e.symm
                        exact kind_ne HzBA.out hc (by decide) rfl)).trans HzBA.out
                      obtain ⟨x0, x1, x2, x3, u0, u1, u2, u3⟩ := ent_facts hz
                      exact ⟨p9, c9, rfl, HTx.out w1 hb1, x0, x1, x2, x3, u0, u1, u2, u3, _, rfl, Lib.hid (ent_set (.string ⟨k.toArray⟩) (.int .u64 (v : Int)) (.bool gb) hz hw1 hb1 (by omega))⟩)
                    go_region_law (first
                      | (refine slByte.step_append rfl (.tmp 82) (.tmp 83) rfl wz.heap.size (v := .slice (some ⟨wz.heap.size, 0, none⟩) 0 0) (u := .slice q4 u.length c4) (by rfl) (by rfl) HA.out.1 HA.out.2.1 HUm.out HLen.out HUl.out HA.out.2.2.size ?_
                         intro v' w1 ho1 hg1 ha1
                         obtain ⟨p9, c9, rfl, t5, t6, x0, x1, x2, x3, u0, u1, u2, u3, HS⟩ := HPA.out v' w1 ho1 hg1
                         clear ho1 hg1 ha1)
                      | (refine slByte.step_append rfl (.tmp 82) (.tmp 83) rfl wz.heap.size (v := .slice (some ⟨wz.heap.size, 0, none⟩) 0 0) (u := .slice q4 u.length c4) (by rfl) (by rfl) HAB.out.1 HAB.out.2.1 HUm.out HLen.out HUl.out HAB.out.2.2.size ?_
                         intro v' w1 ho1 hg1 ha1
                         obtain ⟨p9, c9, rfl, t5, x0, x1, x2, x3, u0, u1, u2, u3, X1, hX1, HS⟩ := HPAB.out v' w1 ho1 hg1
                         clear ho1 hg1 ha1)
                      | (refine slByte.step_append rfl (.tmp 82) (.tmp 83) rfl wz.heap.size (v := .slice (some ⟨wz.heap.size + 1, 0, none⟩) 0 0) (u := .slice q4 u.length c4) (by rfl) (by rfl) HBA.out.1 HBA.out.2.1 HUm.out HLen.out HUl.out HBA.out.2.2.size ?_
                         intro v' w1 ho1 hg1 ha1
                         obtain ⟨p9, c9, rfl, t5, x0, x1, x2, x3, u0, u1, u2, u3, X1, hX1, HS⟩ := HPBA.out v' w1 ho1 hg1
                         clear ho1 hg1 ha1))
                    all_goals
                      go_wp2_with fail
                      go_meet
                      exact ⟨_, _, _, rfl, HS⟩
                  case rest =>
                    obtain ⟨xb, q9, c9, rfl, HX9⟩ := hcut
                    obtain ⟨wy, rfl⟩ : ∃ wy : World, wy = wc := ⟨_, rfl⟩
                    have e0 := cell_of (i := 0) HX9.out.1 rfl
                    have e1 := cell_of (i := 1) HX9.out.1 rfl
                    have e2 := cell_of (i := 2) HX9.out.1 rfl
                    have e3 := cell_of (i := 3) HX9.out.1 rfl
                    have hLw := wgt_len (L ++ done)
                    rw [wgt_append, HK.out.len] at hLw
                    have hdw := HK.out.wg
                    have hn36 : n + 1 ≤ 68719476736 := by omega
                    have HEnU : Hid (EnU wy (fun k => base ≤ k) (.slice pe n ce) (L ++ done) vs) := Lib.hid ((by
                      have h1 := HK.out.en.len47 (fun e he => by
                        rcases List.mem_append.1 he with h | h
                        · have := wgt_mem L e h; have := HW.out; omega
                        · have := wgt_mem done e h; omega) (by rw [HK.out.len]; omega)
                      exact h1.below HX9.out.2.2 : EnU wy (fun k => base ≤ k) (.slice pe n ce) (L ++ done) vs))
                    clear hLw hdw
                    obtain ⟨rg, hrg⟩ : ∃ rg, rightE (L ++ done ++ [(⟨k, v, gb, u⟩ : Ent)]) = rg := ⟨_, rfl⟩
                    have HRg := Lib.hid hrg
                    clear hrg
                    go_upto_region 21 with (fail)
                    go_cut [107] (fun s wx => s = .bool (!rg) ∧ Hid (Below wy.heap.size wy wx))
                    case first =>
                      have hone : oneE (⟨k, v, gb, u⟩ : Ent) = !(gb && decide (0 < u.length)) := rfl
                      have hways : (oneE (⟨k, v, gb, u⟩ : Ent) = false ∧ gb = true ∧ decide ((0 : Int) < (u.length : Int)) = true ∧ decide (0 < u.length) = true) ∨
                          (oneE (⟨k, v, gb, u⟩ : Ent) = true ∧ (gb = false ∨ (gb = true ∧ decide ((0 : Int) < (u.length : Int)) = false ∧ decide (0 < u.length) = false))) := by
                        cases hg : gb
                        · exact .inr ⟨by rw [← hg, hone, hg]; rfl, .inl rfl⟩
                        · by_cases h0 : 0 < u.length
                          · exact .inl ⟨by rw [← hg, hone, hg]; simp [h0], rfl, decide_eq_true (by omega), decide_eq_true h0⟩
                          · exact .inr ⟨by rw [← hg, hone, hg]; simp [h0], .inr ⟨rfl, decide_eq_false (by omega), decide_eq_false h0⟩⟩
                      clear hone hgb
                      by_cases hn0 : 0 < n
                      · have hz : decide ((0 : Int) < (n : Int)) = true := decide_eq_true (by omega)
                        have hzn : decide (0 < n) = true := decide_eq_true hn0
                        have hkm : n - 1 < (L ++ done).length := by rw [HK.out.len]; omega
                        obtain ⟨bl, ol, ql, cl, hpe, _, _, _, _, l0, l1, l2, l3⟩ := HEnU.out.at_ (List.getElem?_eq_getElem hkm)
                        have HLast : Hid ((L ++ done)[(L ++ done).length - 1]? = some (L ++ done)[n - 1]) := Lib.hid (by rw [HK.out.len]; exact List.getElem?_eq_getElem hkm)
                        generalize (L ++ done)[n - 1] = y at *
                        subst hpe
                        have HC := Lib.hid (r6_compare wy.drew y ⟨k, v, gb, u⟩ ql q9 y.val.length u.length cl c9)
                        have HCG : Hid (0 ≤ cmpE y ⟨k, v, gb, u⟩ ↔ lessE y ⟨k, v, gb, u⟩ = false) := Lib.hid (@cmpE_ge y ⟨k, v, gb, u⟩)
                        have HBad : Hid (lessE y ⟨k, v, gb, u⟩ = false → rg = false) := Lib.hid (fun h => HRg.out.symm.trans (right_snoc_less HLast.out h))
                        have HGood : Hid (oneE (⟨k, v, gb, u⟩ : Ent) = true → lessE y ⟨k, v, gb, u⟩ = true → rg = true) := Lib.hid (fun h1 h2 => HRg.out.symm.trans (right_snoc HK.out.rt h1 (fun z hz => by
                          have := HLast.out
                          rw [this] at hz
                          obtain rfl : y = z := by simpa using hz
                          exact h2)))
                        have HOne : Hid (oneE (⟨k, v, gb, u⟩ : Ent) = false → rg = false) := Lib.hid (fun h => HRg.out.symm.trans (right_snoc_one h))
                        obtain ⟨c, hc⟩ : ∃ c, cmpE y ⟨k, v, gb, u⟩ = c := ⟨_, rfl⟩
                        obtain ⟨ls, hls⟩ : ∃ ls, lessE y ⟨k, v, gb, u⟩ = ls := ⟨_, rfl⟩
                        rw [hc] at HC HCG
                        rw [hls] at HCG HBad HGood
                        clear hc hls
                        have hwr : IntKind.i64.wrap ((n : Int) - 1) = (n : Int) - 1 := IntWalk.i64_in _ (by omega)
                        have hkt : ((n : Int) - 1).toNat = n - 1 := by omega
                        have hk1 : (0 : Int) ≤ (n : Int) - 1 := by omega
                        have hkl : ((n : Int) - 1) < (n : Int) := by omega
                        clear hkm
                        rcases hways with ⟨ho, rfl, hq, hqn⟩ | ⟨ho, hg⟩
                        · have hrf := HOne.out ho
                          subst hrf
                          clear ho l0 l1 l2 l3
                          go_quiet (fail)
                          go_wp2_with fail
                          go_meet
                          exact ⟨rfl, Lib.hid (below_drewN (Below.refl _ _) _)⟩
                        · have HO := Lib.hid ho
                          clear ho
                          rcases hg with rfl | ⟨rfl, hq, hqn⟩
                          all_goals
                            refine wp_region_quiet_tail 18 (by kernel_rfl) (by kernel_rfl) ?_
                            simp only [List.take_succ_cons, List.take_zero, List.drop_succ_cons, List.drop_zero]
                            repeat (go_big_quiet_step (fail))
                            refine wpQuiet_nil ?_
                            clear hwr hkt hk1 hkl
                            go_wp2_with fail
                            refine HC.out.mono ?_
                            rintro e w2 ⟨rfl, hb2⟩
                            have HB2 := Lib.hid hb2
                            clear hb2 l0 l1 l2 l3 e0 e1 e2 e3
                            cases hs : ls
                            · have hrf := HBad.out hs
                              subst hrf
                              have hcz : decide (0 ≤ c) = true := by simpa using HCG.out.2 hs
                              clear hs
                              go_wp2_with fail
                              go_meet
                              exact ⟨rfl, Lib.hid ((below_drew (Below.refl _ _)).trans HB2.out)⟩
                            · have hrf := HGood.out HO.out hs
                              subst hrf
                              have hcz : decide (0 ≤ c) = false := by
                                rcases hd : decide (0 ≤ c) with _ | _
                                · rfl
                                · have := HCG.out.1 (by simpa using hd)
                                  rw [this] at hs
                                  cases hs
                              clear hs
                              go_wp2_with fail
                              go_meet
                              exact ⟨rfl, Lib.hid ((below_drew (Below.refl _ _)).trans HB2.out)⟩
                      · obtain rfl : n = 0 := by omega
                        have hz0 : (L ++ done) = [] := List.eq_nil_of_length_eq_zero HK.out.len
                        have HOne : Hid (oneE (⟨k, v, gb, u⟩ : Ent) = rg) := Lib.hid (by rw [← HRg.out, hz0]; rfl)
                        clear hz0
                        rcases hways with ⟨ho, rfl, hq, hqn⟩ | ⟨ho, rfl | ⟨rfl, hq, hqn⟩⟩
                        all_goals
                          have hrf := HOne.out.symm.trans ho
                          subst hrf
                          clear ho
                          go_quiet (fail)
                          go_wp2_with fail
                          go_meet
                          exact ⟨rfl, Lib.hid (below_drewN (Below.refl _ _) _)⟩
                    case rest =>
                      obtain ⟨rfl, HY⟩ := hcut
                      obtain ⟨wx, rfl⟩ : ∃ wx : World, wx = wc := ⟨_, rfl⟩
                      have hbx : Below wz.heap.size wz wx := HX9.out.2.2.trans (HY.out.mono HX9.out.2.2.size)
                      cases rg
                      · have hno : entR p L = none := entR_wrong (x := ⟨k, v, gb, u⟩) HK.out.par (by rw [HR.out]; exact HR0.out) (by rw [HR.out, HEq.out]) (by rw [HR.out, HEq.out]) (fun s => by
                          rcases hd : rightE (L ++ done ++ (⟨k, v, gb, u⟩ : Ent) :: s) with _ | _
                          · rfl
                          · have h1 := @right_left (L ++ done ++ [(⟨k, v, gb, u⟩ : Ent)]) s (by simpa using hd)
                            rw [HRg.out] at h1
                            cases h1)
                        have hfx : Fr (fun k => (Value.slice pe0 L.length ce0).ownBlock = some k) w wx := HFr.out.trans ((Fr.of_new hbx (fun _ => False)).mono fun _ _ h => h.elim)
                        have HFx := Lib.hid hfx
                        clear hbx hfx e0 e1 e2 e3
                        go_wp2_with fail
                        refine Go.bodyPost_ret (Go.results_tmp2 rfl _ _ _) rfl ?_
                        exact ⟨.inl ⟨hno, rfl⟩, HFx.out⟩
                      · have hHx := (HY.out.block _ (block_lt HX9.out.1)).trans HX9.out.1
                        have f0 := cell_of (i := 0) hHx rfl
                        have f1 := cell_of (i := 1) hHx rfl
                        have f2 := cell_of (i := 2) hHx rfl
                        have f3 := cell_of (i := 3) hHx rfl
                        obtain ⟨X, hX⟩ : ∃ X, wx.alloc (.cells #[.string ⟨k.toArray⟩, .int .u64 (v : Int), .bool gb, .slice q9 u.length c9] 37) = X := ⟨_, rfl⟩
                        have hbX : Below wx.heap.size wx X := by rw [← hX]; exact below_alloc _ _
                        have HbX := Lib.hid hbX
                        have Hbx := Lib.hid hbx
                        have HO : Hid (Own wx wz.heap.size (.slice q9 u.length c9) u) := Lib.hid (HX9.out.2.1.keep fun j hj => HY.out.block j (World.ownsRow.lt HX9.out.2.1 j hj).2)
                        have HRow : Hid (X.ownsRow base 37 4 (.slice pe n ce) n (cellsE (L ++ done) vs)) := Lib.hid (by
                          have h := HK.out.en.row
                          rw [HK.out.len] at h
                          exact row_keep h fun j hj => (hbX.block j (Nat.lt_of_lt_of_le (row_lt h j hj) hbx.size)).trans (hbx.block j (row_lt h j hj)))
                        have HCl : Hid (Cl X (fun j => j = wx.heap.size) (.slice (some ⟨wx.heap.size, 0, none⟩) 1 1) 1 (cellsE [(⟨k, v, gb, u⟩ : Ent)] [.slice q9 u.length c9])) := Lib.hid (by
                          rw [← hX]
                          exact Cl.new wx (fun j => j = wx.heap.size) 1 (cellsE [(⟨k, v, gb, u⟩ : Ent)] [.slice q9 u.length c9]) _ _ rfl (by omega) rfl)
                        have HOne : Hid (∀ x ∈ cellsE [(⟨k, v, gb, u⟩ : Ent)] [.slice q9 u.length c9], x.oneCell' = true) := Lib.hid (cellsE_one _ _ (by simp [Value.oneCell']))
                        have HSz : Hid (base ≤ X.heap.size) := Lib.hid (Nat.le_trans HBz.out (Nat.le_trans hbx.size hbX.size))
                        have HLn := Lib.hid hn36
                        have HPut : Hid (∀ (w3 : World) (p9 : Option Addr) (c8 : Nat), w3.ownsRow base 37 4 (.slice p9 (n + 1) c8) (n + 1) (cellsE (L ++ done) vs ++ cellsE [(⟨k, v, gb, u⟩ : Ent)] [.slice q9 u.length c9]) → X.grownBy w3 (Value.slice pe n ce).ownBlock →
                            ((Value.slice p9 (n + 1) c8).ownBlock = (Value.slice pe n ce).ownBlock ∨ (Value.slice p9 (n + 1) c8).ownBlock = some X.heap.size) →
                            EnsR w base (.slice pe0 L.length ce0) L p w3 (a + n1 + n2 + 1 + n3) (done ++ [(⟨k, v, gb, u⟩ : Ent)]) (n + 1) p9 c8 (vs ++ [.slice q9 u.length c9])) := Lib.hid (fun w3 p9 c8 h1 h2 h3 =>
                          EnsR.put (x := ⟨k, v, gb, u⟩) HK.out HBz.out (by rw [HR.out]; exact HR0.out) (by rw [HR.out, HEq.out, ← HR.out, List.drop_drop]; simp only [Nat.add_assoc]) hn3p HRg.out Hbx.out HO.out HbX.out h1 h2 h3)
                        clear hHx hbX hbx e0 e1 e2 e3 hn36
                        go_wp2_with (at_builtin
                                     refine slEnt.wpList_append rfl (.tmp 108) (.tmp 110) rfl base (v := .slice pe n ce) (u := .slice (some ⟨wx.heap.size, 0, none⟩) 1 1) rfl rfl HRow.out HCl.out rfl HOne.out HLn.out HSz.out ?_
                                     intro v' w3 ho3 hg3 ha3
                                     obtain ⟨p9, c8, rfl, _, _⟩ := row_shape ho3
                                     have HQ := Lib.hid (HPut.out w3 p9 c8 ho3 hg3 ha3)
                                     clear ho3 hg3 ha3)
                        go_roundw
                        case rel => exact ⟨a + n1 + n2 + 1 + n3, _, n + 1, p9, c8, _, by go_num, rfl, HQ.out⟩
                        case measure => simp [intOf]; omega
                · rw [hb3] at hc3
                  have hno := HNo.out (scE_v HB1.out HB2.out HX.out HX1.out (by rw [HRd.out]; exact hb3) he)
                  have HC3 := Lib.hid hc3
                  have e0 : ((e : Int) != 0) = true := by rw [bne_iff_ne]; omega
                  clear hc3 hb3 he
                  go_wp2_with fail
                  refine HC3.out.mono ?_
                  rintro y w1 ⟨v3, rfl, hv3, rfl⟩
                  clear hv3
                  go_wp2_with fail
                  refine Go.bodyPost_ret (Go.results_tmp2 rfl _ _ _) rfl ?_
                  exact ⟨.inl ⟨hno, rfl⟩, HFr.out⟩
            · have d3 : decide ((p.length : Int) ≤ (a : Int) + (n1 : Int) + (n2 : Int)) = true := decide_eq_true (by omega)
              have hno := HNo.out (scE_g0 HB1.out HB2.out (by have := HRl.out; omega))
              go_wp2_with fail
              refine Go.bodyPost_ret (Go.results_tmp2 rfl _ _ _) rfl ?_
              exact ⟨.inl ⟨hno, rfl⟩, HFr.out⟩
          all_goals
            rw [hb2] at hc2
            have hno := HNo.out (scE_n HB1.out hb2 (by decide))
            have HC2 := Lib.hid hc2
            clear hc2 hb2 hnl
            go_wp2_with fail
            refine HC2.out.mono ?_
            rintro y w1 ⟨rfl, rfl⟩
            go_wp2_with fail
            refine Go.bodyPost_ret (Go.results_tmp2 rfl _ _ _) rfl ?_
            exact ⟨.inl ⟨hno, rfl⟩, HFr.out⟩
        · rw [hb1] at hc1
          have hno := HNo.out (scE_k hb1 he)
          have HC1 := Lib.hid hc1
          have e0 : ((e : Int) != 0) = true := by rw [bne_iff_ne]; omega
          clear hc1 hb1 he
          go_wp2_with fail
          refine HC1.out.mono ?_
          rintro y w1 ⟨v1, rfl, hv1, rfl⟩
          clear hv1
          go_wp2_with fail
          refine Go.bodyPost_ret (Go.results_tmp2 rfl _ _ _) rfl ?_
          exact ⟨.inl ⟨hno, rfl⟩, HFr.out⟩
      · obtain rfl : a = p.length := by omega
        have hen := HK.out.en
        have hln := HK.out.len
        have hpar : scA p = some done := by have := HK.out.par; rw [List.drop_length, scA_nil] at this; simpa using this
        have HFin : Hid (EntsT base L p (.returned (.tuple #[.slice pe n ce, .bool true])) wz) := Lib.hid (.inr ⟨done, pe, ce, vs, entR_some HP0.out hpar HK.out.rt, by rw [hln], by rw [hln]; exact hen, by have := HK.out.wg; omega, HK.out.sq⟩)
        have HFr := Lib.hid HK.out.fr
        clear hen hln hpar
        go_wp2_with fail
        refine Go.bodyPost_ret (Go.results_tmp2 rfl _ _ _) rfl ?_
        exact ⟨HFin.out, HFr.out⟩
end Go.Proofs.YtagehnclkneolaaGreatDoor
