/-
  The walk over GfInverts.
-/
import Derived.Test.YtjojimmfjmchcaaGnW
namespace Go.Proofs.Ytjojimmfjmchcaa
open Go.RowKit

theorem cl_of_rdv {w : World} {S : Nat → Prop} {v : Value} {ns : List Int} (h : RdV w S v (ns.map (Value.int .i64))) : Cl w (fun k => k < w.heap.size) v ns.length (ns.map (Value.int .i64)) := by
  obtain ⟨p, cap, e, h1, h2, h3, h4, h5⟩ := h
  rw [List.length_map] at e h1 h2
  exact ⟨p, cap, e, h1, h2, h3, h4, fun j x hx => by
    obtain ⟨b, off, e2, hb, _, hc⟩ := h5 j x hx
    exact ⟨b, off, e2, hb, hb, hc⟩⟩
theorem OwL.cl {w : World} {G : Nat → Prop} {v : Value} {us : List Value} {rows : List (List UInt8)} {n : Nat} (h : OwL w G v us rows) (hl : rows.length = n) (hn : n ≤ 140737488355328) : Cl w (fun _ => True) v n us := by
  subst hl
  exact Cl.of_own h.row hn (fun _ _ => trivial) (by rw [h.len, Nat.mul_one])
theorem lit_low {x n c b : Nat} (h : (Value.slice (some ⟨x, 0, none⟩) n c).ownBlock = some b) : x ≤ b := by
  obtain rfl : x = b := Option.some.inj h
  exact Nat.le_refl _
theorem OwL.one {w : World} {G : Nat → Prop} {v : Value} {us : List Value} {rows : List (List UInt8)} (h : OwL w G v us rows) : ∀ x ∈ us, x.oneCell' = true := fun x hx => by
  obtain ⟨i, hi⟩ := List.getElem?_of_mem hx
  have hl : i < rows.length := by rw [← h.len]; exact (List.getElem?_eq_some_iff.1 hi).1
  obtain ⟨p, c, rfl⟩ := own_shape (h.own i x _ hi (List.getElem?_eq_getElem hl))
  rfl
theorem nodup_snoc {R : List Nat} {i : Nat} (h : R.Nodup) (hi : i ∉ R) : (R ++ [i]).Nodup := by
  refine List.nodup_append.2 ⟨h, by simp, fun a ha b hb e => ?_⟩
  rw [List.mem_singleton.1 hb] at e
  exact hi (e ▸ ha)
set_option maxRecDepth 100000 in
set_option maxHeartbeats 8000000 in
theorem inverts_any (w : World) (k m : Int) (v : Value) (ns : List Int) (hn : RdV w (fun _ => False) v (ns.map (Value.int .i64))) :
    Calls Try.prog 7 #[.int .i64 k, .int .i64 m, v] w fun e w' => e = .returned (.bool true) ∧ Below w.heap.size w w' := by
  have HN := Lib.hid (cl_of_rdv hn)
  obtain ⟨pn, cn, rfl, hln, hln2, hcn, _⟩ := (cl_of_rdv hn).form
  clear hn
  go_enter Try.func7, Try.ntmps7
  go_wp2_with fail
  refine (known_any w).mono ?_
  rintro e w1 ⟨rfl, hbw⟩
  have HB1 := Lib.hid hbw
  clear hbw
  by_cases c1 : k < 1
  · have d1 : decide (k < 1) = true := decide_eq_true c1
    clear c1
    go_wp2_with fail
    go_ret
    exact ⟨rfl, HB1.out⟩
  have d1 : decide (k < 1) = false := decide_eq_false c1
  by_cases c2 : m < 1
  · have d2 : decide (m < 1) = true := decide_eq_true c2
    clear c1 c2
    go_wp2_with fail
    go_ret
    exact ⟨rfl, HB1.out⟩
  have d2 : decide (m < 1) = false := decide_eq_false c2
  by_cases c3 : 12 < k
  · have d3 : decide (12 < k) = true := decide_eq_true c3
    clear c1 c2 c3
    go_wp2_with fail
    go_ret
    exact ⟨rfl, HB1.out⟩
  have d3 : decide (12 < k) = false := decide_eq_false c3
  by_cases c4 : 12 < m
  · have d4 : decide (12 < m) = true := decide_eq_true c4
    clear c1 c2 c3 c4
    go_wp2_with fail
    go_ret
    exact ⟨rfl, HB1.out⟩
  have d4 : decide (12 < m) = false := decide_eq_false c4
  obtain ⟨k, rfl⟩ := Int.eq_ofNat_of_zero_le (show 0 ≤ k by omega)
  obtain ⟨m, rfl⟩ := Int.eq_ofNat_of_zero_le (show 0 ≤ m by omega)
  have hk1 : 1 ≤ k := by omega
  have hk2 : k ≤ 12 := by omega
  have hm1 : 1 ≤ m := by omega
  have hm2 : m ≤ 12 := by omega
  have HU := Lib.hid (unit_any w1 k hk1 (by omega))
  clear c1 c2 c3 c4
  go_wp2_with fail
  refine HU.out.mono ?_
  rintro e w2 ⟨usU, rfl, hoU, hb2⟩
  have HOU := Lib.hid hoU
  have HC := Lib.hid (cau_any w2 m k hm1 hk1 (by omega))
  have HB2 := Lib.hid (HB1.out.trans (hb2.mono HB1.out.size))
  clear hoU hb2 d1 d2 d3 d4
  go_wp2_with fail
  refine HC.out.mono ?_
  rintro e w3 ⟨usC, rfl, hoC, hb3⟩
  have HOC := Lib.hid hoC
  have HOU3 := Lib.hid (HOU.out.below hb3)
  have HB3 := Lib.hid (HB2.out.trans (hb3.mono HB2.out.size))
  have hmk : ∀ W : World, (Instr.makeSlice 62 (.int .i64 ((k : Int) + (m : Int))) (.int .i64 ((k : Int) + (m : Int)))).run Try.prog W = .ok (.slice (some ⟨W.heap.size, 0, none⟩) (k + m) (k + m)) (W.alloc (.cells (usedA (k + m) []) 4)) := fun W => by
    have h := mk_bools (k + m) (by omega) W
    rw [Int.natCast_add] at h
    exact h
  have HLit : Hid ((w3.alloc (.cells #[] 48)).ownsRow w3.heap.size 48 1 (.slice (some ⟨w3.heap.size, 0, none⟩) 0 0) 0 []) := Lib.hid (World.ownsRow_lit (e := 48) (size := 1) w3 #[] 0 (Nat.le_refl _) (Nat.zero_le _) rfl)
  have hlU : usU.length = k := by have h := HOU.out.len; rw [tabM_len] at h; exact h
  have hlC : usC.length = m := by have h := hoC.len; rw [tabM_len] at h; exact h
  have HLn : Hid (usU.length = k * 1 ∧ usC.length = m * 1) := Lib.hid ⟨by omega, by omega⟩
  have HOn : Hid ((∀ x ∈ usU, x.oneCell' = true) ∧ ∀ x ∈ usC, x.oneCell' = true) := Lib.hid ⟨HOU.out.one, hoC.one⟩
  have HY0 : Hid (Below w3.heap.size w3 (w3.alloc (.cells #[] 48))) := Lib.hid (bel_alloc _ _)
  have HClU : Hid (Cl (w3.alloc (.cells #[] 48)) (fun _ => True) (.slice (some ⟨w1.heap.size, 0, none⟩) k k) k usU) := Lib.hid ((HOU3.out.below HY0.out).cl (tabM_len _ _ _) (by omega))
  clear hoC hb3 hlU hlC
  go_wp2_with (first
    | (at_builtin
       refine slGf.wpList_append rfl (.tmp 68) (.tmp 69) rfl w3.heap.size rfl rfl HLit.out HClU.out HLn.out.1 HOn.out.1 (by omega) HY0.out.size ?_
       intro va w4 ho4 hg4 ha4
       have HB4 := Lib.hid (HY0.out.grown hg4 HY0.out.size fun b hb => lit_low hb)
       have HRa := Lib.hid ho4
       have HClC : Hid (Cl w4 (fun _ => True) (.slice (some ⟨w2.heap.size, 0, none⟩) m m) m usC) := Lib.hid ((HOC.out.below HB4.out).cl (tabM_len _ _ _) (by omega))
       clear ho4 hg4 ha4)
    | (at_builtin
       refine slGf.wpList_append rfl (.tmp 70) (.tmp 71) rfl w3.heap.size rfl rfl HRa.out HClC.out HLn.out.2 HOn.out.2 (by omega) HB4.out.size ?_
       intro vall w5 ho5 hg5 ha5
       have HB5a := Lib.hid (HB4.out.grown hg5 HB4.out.size fun b hb => (World.ownsRow.lt HRa.out b hb).1)
       have HALL : Hid (Mx w5 (fun _ => True) vall (tabM (k + m) k (allF k))) := Lib.hid (all_mx (HOU3.out.below HB5a.out) (HOC.out.below HB5a.out) hk2 hm2 (row_zero (by simpa using ho5)))
       have HB5 := Lib.hid (HB3.out.trans (HB5a.out.mono HB3.out.size))
       have HOU5 := Lib.hid (HOU3.out.below HB5a.out)
       clear ho5 hg5 ha5))
  clear hmk
  go_loopw [13, 14, 15, 16] (fun x at_ _ _ wr => ∃ (a : Nat) (R : List Nat), R.length = a ∧ a ≤ k ∧ at_ = .int .i64 (a : Int) ∧ R.Nodup ∧ (∀ i ∈ R, i < k + m) ∧ IvS w5 wr (k + m) R x) (fun _ at_ _ _ _ => k - (intOf at_).toNat)
  case atStart => exact ⟨0, [], rfl, by omega, rfl, List.nodup_nil, (fun i hi => by cases hi), IvS.start w5 (k + m)⟩
  case round =>
    obtain ⟨a, R, hRa, hak, rfl, hnd, hlt, hiv⟩ := hrel
    obtain ⟨px, cx, hx, hcx⟩ := row_shp hiv.row
    rw [hRa] at hx hcx
    subst hx
    have HIv := Lib.hid hiv
    have HR := Lib.hid (And.intro hRa (And.intro hnd hlt))
    have HBw := Lib.hid (HB5.out.trans (hiv.bel.mono HB5.out.size))
    have HNr : Hid (Cl wr (fun k => k < w.heap.size) (.slice pn ns.length cn) ns.length (ns.map (Value.int .i64))) := Lib.hid (HN.out.step (Fr.of_below HBw.out) fun k _ h1 h2 => by omega)
    clear hiv hnd hlt hRa
    by_cases h1 : a < k
    · have e1 : decide ((a : Int) < (k : Int)) = true := decide_eq_true (by omega)
      obtain ⟨j, hj, hjR⟩ := free_one (K := k + m) (r := R) (by rw [HR.out.1]; omega)
      have HJ := Lib.hid hjR
      clear hjR
      by_cases h2 : a < ns.length
      · have e2 : decide ((a : Int) < (ns.length : Int)) = true := decide_eq_true (by omega)
        have e3 : decide (a < ns.length) = true := decide_eq_true h2
        obtain ⟨z, hz⟩ : ∃ z, ns[a]? = some z := ⟨ns[a], List.getElem?_eq_getElem h2⟩
        obtain ⟨b0, o0, rfl, hb0, _, hc0⟩ := HNr.out.at_ (j := a) (x := .int .i64 z) (by rw [List.getElem?_map, hz]; rfl)
        clear hz
        by_cases h3 : 0 ≤ z
        · have e4 : decide (0 ≤ z) = true := decide_eq_true h3
          have e5 : decide (z < 0) = false := decide_eq_false (by omega)
          have tz := tmod_at h3 k m
          have hn0 : z.toNat % (k + m) < k + m := Nat.mod_lt _ (by omega)
          have kz : (((k : Int) + (m : Int)) == 0) = false := by simp; omega
          generalize z.toNat % (k + m) = n0 at *
          go_wp2_with fail
          go_loop [15] (fun n => ∃ i : Nat, i < k + m ∧ n = .int .i64 (i : Int)) (fun n => distC (k + m) (intOf n).toNat j)
          case atStart => exact ⟨n0, hn0, rfl⟩
          case round =>
            obtain ⟨i, hi, rfl⟩ := hrel
            have e6 : decide (i < k + m) = true := decide_eq_true hi
            obtain ⟨kc, kf⟩ := HIv.out.cell hi
            by_cases hin : i ∈ R
            · rw [decide_eq_true hin] at kc
              have hd := dist_next hi hj fun e => HJ.out (e ▸ hin)
              have tn := tmod_next i k m
              have hi2 : (i + 1) % (k + m) < k + m := Nat.mod_lt _ (by omega)
              generalize (i + 1) % (k + m) = i2 at *
              clear hin
              go_wp2_with fail
              exact ⟨⟨i2, hi2, rfl⟩, by simpa [intOf] using hd⟩
            · rw [decide_eq_false hin] at kc
              have hnin := hin
              clear hin
              obtain ⟨W1, hW1⟩ : ∃ W1, wr.setCell ⟨w5.heap.size, i, none⟩ (.bool true) = W1 := ⟨_, rfl⟩
              obtain ⟨Y, hY⟩ : ∃ Y, W1.alloc (.cells #[.int .i64 (i : Int)] 3) = Y := ⟨_, rfl⟩
              have hm := HIv.out.mark hi
              rw [hW1] at hm
              have HRow : Hid (Y.ownsRow 0 3 1 (.slice px a cx) a (numV R)) := Lib.hid (by
                have h := hm.2.1
                rw [HR.out.1] at h
                rw [← hY]
                exact row_keep h fun b hb => alloc_old (row_lt h hb) _)
              have HCl : Hid (Cl Y (fun _ => True) (.slice (some ⟨W1.heap.size, 0, none⟩) 1 1) 1 [.int .i64 (i : Int)]) := Lib.hid (by
                rw [← hY]
                exact Cl.new W1 _ 1 [.int .i64 (i : Int)] _ 3 rfl (by omega) trivial)
              have HWY := Lib.hid (And.intro hW1.symm hY.symm)
              have HNi := Lib.hid hnin
              clear hm hnin
              go_wp2_with (at_builtin
                           refine slInt.wpList_append rfl (.tmp 113) (.tmp 115) rfl 0 rfl rfl HRow.out HCl.out rfl (fun x hx => by rw [List.mem_singleton.1 hx]; rfl) (by omega) (Nat.zero_le _) ?_
                           intro v4 w4 ho4 hg4 ha4
                           have HNx := Lib.hid (HIv.out.push hi HWY.out.1 HWY.out.2 (by rw [HR.out.1]; exact ho4) hg4 ha4)
                           clear ho4 hg4 ha4)
              exact ⟨⟨a + 1, R ++ [i], by simp [HR.out.1], by omega, by go_num, nodup_snoc HR.out.2.1 HNi.out, (fun x hx => by
                rcases List.mem_append.1 hx with h | h
                · exact HR.out.2.2 x h
                · rw [List.mem_singleton.1 h]; exact hi), HNx.out⟩, by simp [intOf]; omega⟩
        · have e4 : decide (0 ≤ z) = false := decide_eq_false h3
          have e5 : decide (z < 0) = true := decide_eq_true (by omega)
          go_wp2_with fail
          go_loop [16] (fun n => ∃ i : Nat, i ≤ j ∧ n = .int .i64 (i : Int)) (fun n => j - (intOf n).toNat)
          case atStart => exact ⟨0, Nat.zero_le _, rfl⟩
          case round =>
            obtain ⟨i, hij, rfl⟩ := hrel
            have hi : i < k + m := by omega
            have e6 : decide (i < k + m) = true := decide_eq_true hi
            obtain ⟨kc, kf⟩ := HIv.out.cell hi
            by_cases hin : i ∈ R
            · rw [decide_eq_true hin] at kc
              have hne : i ≠ j := fun e => HJ.out (e ▸ hin)
              clear hin
              go_wp2_with fail
              exact ⟨⟨i + 1, by omega, by go_num⟩, by simp [intOf]; omega⟩
            · rw [decide_eq_false hin] at kc
              have hnin := hin
              clear hin
              obtain ⟨W1, hW1⟩ : ∃ W1, wr.setCell ⟨w5.heap.size, i, none⟩ (.bool true) = W1 := ⟨_, rfl⟩
              obtain ⟨Y, hY⟩ : ∃ Y, W1.alloc (.cells #[.int .i64 (i : Int)] 3) = Y := ⟨_, rfl⟩
              have hm := HIv.out.mark hi
              rw [hW1] at hm
              have HRow : Hid (Y.ownsRow 0 3 1 (.slice px a cx) a (numV R)) := Lib.hid (by
                have h := hm.2.1
                rw [HR.out.1] at h
                rw [← hY]
                exact row_keep h fun b hb => alloc_old (row_lt h hb) _)
              have HCl : Hid (Cl Y (fun _ => True) (.slice (some ⟨W1.heap.size, 0, none⟩) 1 1) 1 [.int .i64 (i : Int)]) := Lib.hid (by
                rw [← hY]
                exact Cl.new W1 _ 1 [.int .i64 (i : Int)] _ 3 rfl (by omega) trivial)
              have HWY := Lib.hid (And.intro hW1.symm hY.symm)
              have HNi := Lib.hid hnin
              clear hm hnin
              go_wp2_with (at_builtin
                           refine slInt.wpList_append rfl (.tmp 126) (.tmp 128) rfl 0 rfl rfl HRow.out HCl.out rfl (fun x hx => by rw [List.mem_singleton.1 hx]; rfl) (by omega) (Nat.zero_le _) ?_
                           intro v4 w4 ho4 hg4 ha4
                           have HNx := Lib.hid (HIv.out.push hi HWY.out.1 HWY.out.2 (by rw [HR.out.1]; exact ho4) hg4 ha4)
                           clear ho4 hg4 ha4)
              exact ⟨⟨a + 1, R ++ [i], by simp [HR.out.1], by omega, by go_num, nodup_snoc HR.out.2.1 HNi.out, (fun x hx => by
                rcases List.mem_append.1 hx with h | h
                · exact HR.out.2.2 x h
                · rw [List.mem_singleton.1 h]; exact hi), HNx.out⟩, by simp [intOf]; omega⟩
      · have e2 : decide ((a : Int) < (ns.length : Int)) = false := decide_eq_false (by omega)
        go_wp2_with fail
        go_loop [16] (fun n => ∃ i : Nat, i ≤ j ∧ n = .int .i64 (i : Int)) (fun n => j - (intOf n).toNat)
        case atStart => exact ⟨0, Nat.zero_le _, rfl⟩
        case round =>
          obtain ⟨i, hij, rfl⟩ := hrel
          have hi : i < k + m := by omega
          have e6 : decide (i < k + m) = true := decide_eq_true hi
          obtain ⟨kc, kf⟩ := HIv.out.cell hi
          by_cases hin : i ∈ R
          · rw [decide_eq_true hin] at kc
            have hne : i ≠ j := fun e => HJ.out (e ▸ hin)
            clear hin
            go_wp2_with fail
            exact ⟨⟨i + 1, by omega, by go_num⟩, by simp [intOf]; omega⟩
          · rw [decide_eq_false hin] at kc
            have hnin := hin
            clear hin
            obtain ⟨W1, hW1⟩ : ∃ W1, wr.setCell ⟨w5.heap.size, i, none⟩ (.bool true) = W1 := ⟨_, rfl⟩
            obtain ⟨Y, hY⟩ : ∃ Y, W1.alloc (.cells #[.int .i64 (i : Int)] 3) = Y := ⟨_, rfl⟩
            have hm := HIv.out.mark hi
            rw [hW1] at hm
            have HRow : Hid (Y.ownsRow 0 3 1 (.slice px a cx) a (numV R)) := Lib.hid (by
              have h := hm.2.1
              rw [HR.out.1] at h
              rw [← hY]
              exact row_keep h fun b hb => alloc_old (row_lt h hb) _)
            have HCl : Hid (Cl Y (fun _ => True) (.slice (some ⟨W1.heap.size, 0, none⟩) 1 1) 1 [.int .i64 (i : Int)]) := Lib.hid (by
              rw [← hY]
              exact Cl.new W1 _ 1 [.int .i64 (i : Int)] _ 3 rfl (by omega) trivial)
            have HWY := Lib.hid (And.intro hW1.symm hY.symm)
            have HNi := Lib.hid hnin
            clear hm hnin
            go_wp2_with (at_builtin
                         refine slInt.wpList_append rfl (.tmp 126) (.tmp 128) rfl 0 rfl rfl HRow.out HCl.out rfl (fun x hx => by rw [List.mem_singleton.1 hx]; rfl) (by omega) (Nat.zero_le _) ?_
                         intro v4 w4 ho4 hg4 ha4
                         have HNx := Lib.hid (HIv.out.push hi HWY.out.1 HWY.out.2 (by rw [HR.out.1]; exact ho4) hg4 ha4)
                         clear ho4 hg4 ha4)
            exact ⟨⟨a + 1, R ++ [i], by simp [HR.out.1], by omega, by go_num, nodup_snoc HR.out.2.1 HNi.out, (fun x hx => by
              rcases List.mem_append.1 hx with h | h
              · exact HR.out.2.2 x h
              · rw [List.mem_singleton.1 h]; exact hi), HNx.out⟩, by simp [intOf]; omega⟩
    · obtain rfl : a = k := by omega
      have e1 : decide ((a : Int) < (a : Int)) = false := decide_eq_false (by omega)
      have hRr : Calls Try.prog 35 #[vall, .slice px a cx] wr fun e w' => ∃ y us, e = .returned (.tuple #[y, .int .i64 0]) ∧ OwL w' (fun k => wr.heap.size ≤ k) y us (tabM a a (pickF a R)) ∧ Below wr.heap.size wr w' := by
        have hc : Cl wr (fun _ => True) (.slice px a cx) (numZ R).length ((numZ R).map (Value.int .i64)) := by
          rw [← numV_is, numZ_len]
          exact Cl.of_own HIv.out.row (by rw [HR.out.1]; omega) (fun _ _ => trivial) (by simp [numV])
        have h := rows_m wr _ _ vall _ _ (numZ R) (HALL.out.below HIv.out.bel) hc
        rw [rows_pick hk1 (by omega) HR.out.1 HR.out.2.2] at h
        exact h
      obtain ⟨X, hX, hiX⟩ := inverse_pick hk1 (show a + m ≤ 255 by omega) HR.out.1 HR.out.2.1 HR.out.2.2
      have hti := times_inv hk1 (by omega) hX
      have HSm : Hid (SmlL (tabM a a (pickF a R)) ∧ SmlL (tabM a a X) ∧ SmlL (tabM a a unitF)) := Lib.hid ⟨sml_tab _ (by omega) (by omega), sml_tab _ (by omega) (by omega), sml_tab _ (by omega) (by omega)⟩
      have HRr := Lib.hid hRr
      have HIn : Hid (∀ (W : World) (y : Value), Mx W (fun _ => True) y (tabM a a (pickF a R)) → Calls Try.prog 33 #[y] W fun e w' => ∃ z us, e = .returned (.tuple #[z, .int .i64 0]) ∧ OwL w' (fun k => W.heap.size ≤ k) z us (tabM a a X) ∧ Below W.heap.size W w') := Lib.hid fun W y hy => by
        have h := inverse_m W _ y _ hy
        rw [hiX] at h
        exact h
      have HT1 : Hid (∀ (W : World) (y z : Value), Mx W (fun _ => True) y (tabM a a (pickF a R)) → Mx W (fun _ => True) z (tabM a a X) → Calls Try.prog 29 #[y, z] W fun e w' => ∃ q us, e = .returned (.tuple #[q, .int .i64 0]) ∧ OwL w' (fun k => W.heap.size ≤ k) q us (tabM a a unitF) ∧ Below W.heap.size W w') := Lib.hid fun W y z hy hz => by
        have h := times_m W _ _ y z _ _ hy hz
        rw [hti.1] at h
        exact h
      have HT2 : Hid (∀ (W : World) (y z : Value), Mx W (fun _ => True) y (tabM a a X) → Mx W (fun _ => True) z (tabM a a (pickF a R)) → Calls Try.prog 29 #[y, z] W fun e w' => ∃ q us, e = .returned (.tuple #[q, .int .i64 0]) ∧ OwL w' (fun k => W.heap.size ≤ k) q us (tabM a a unitF) ∧ Below W.heap.size W w') := Lib.hid fun W y z hy hz => by
        have h := times_m W _ _ y z _ _ hy hz
        rw [hti.2] at h
        exact h
      have HMU : Hid (Mx wr (fun _ => True) (.slice (some ⟨w1.heap.size, 0, none⟩) a a) (tabM a a unitF)) := Lib.hid ((HOU5.out.below HIv.out.bel).see HSm.out.2.2)
      generalize tabM a a (pickF a R) = P at *
      generalize tabM a a X = Q at *
      generalize tabM a a unitF = U at *
      clear hRr hX hiX hti
      go_wp2_with fail
      refine HRr.out.mono ?_
      rintro e w6 ⟨xp, usp, rfl, hop, hb6⟩
      have HMp := Lib.hid (hop.see HSm.out.1)
      have HMU6 := Lib.hid (HMU.out.below hb6)
      have HB6 := Lib.hid (HBw.out.trans (hb6.mono HBw.out.size))
      clear hop hb6
      go_wp2_with fail
      refine (HIn.out w6 _ HMp.out).mono ?_
      rintro e w7 ⟨xv, usv, rfl, hov, hb7⟩
      have HMv := Lib.hid (hov.see HSm.out.2.1)
      have HMp7 := Lib.hid (HMp.out.below hb7)
      have HMU7 := Lib.hid (HMU6.out.below hb7)
      have HB7 := Lib.hid (HB6.out.trans (hb7.mono HB6.out.size))
      clear hov hb7
      go_wp2_with fail
      refine (HT1.out w7 _ _ HMp7.out HMv.out).mono ?_
      rintro e w8 ⟨xx, usx, rfl, hox, hb8⟩
      have HMx := Lib.hid (hox.see HSm.out.2.2)
      have HMp8 := Lib.hid (HMp7.out.below hb8)
      have HMv8 := Lib.hid (HMv.out.below hb8)
      have HMU8 := Lib.hid (HMU7.out.below hb8)
      have HB8 := Lib.hid (HB7.out.trans (hb8.mono HB7.out.size))
      clear hox hb8
      go_wp2_with fail
      refine (HT2.out w8 _ _ HMv8.out HMp8.out).mono ?_
      rintro e w9 ⟨xy, usy, rfl, hoy, hb9⟩
      have HMy := Lib.hid (hoy.see HSm.out.2.2)
      have HMx9 := Lib.hid (HMx.out.below hb9)
      have HMU9 := Lib.hid (HMU8.out.below hb9)
      have HB9 := Lib.hid (HB8.out.trans (hb9.mono HB8.out.size))
      have HS1 := Lib.hid (same_any w9 _ _ _ _ U U HMx9.out HMU9.out)
      rw [decide_eq_true rfl] at HS1
      clear hoy hb9
      go_wp2_with fail
      refine HS1.out.mono ?_
      rintro e w10 ⟨rfl, n10, hw10⟩
      have HB10 : Hid (Below w.heap.size w w10) := Lib.hid (by rw [hw10]; exact below_drewN HB9.out n10)
      have hbd : Below w9.heap.size w9 w10 := by rw [hw10]; exact below_drewN (Below.refl _ _) n10
      have HS2 := Lib.hid (same_any w10 _ _ _ _ U U (HMy.out.below hbd) (HMU9.out.below hbd))
      rw [decide_eq_true rfl] at HS2
      clear hw10 hbd
      go_wp2_with fail
      refine HS2.out.mono ?_
      rintro e w11 ⟨rfl, n11, hw11⟩
      have HB11 : Hid (Below w.heap.size w w11) := Lib.hid (by rw [hw11]; exact below_drewN HB10.out n11)
      clear hw11
      go_wp2_with fail
      go_ret
      exact ⟨by first | rfl | (simp; done), HB11.out⟩
end Go.Proofs.Ytjojimmfjmchcaa
