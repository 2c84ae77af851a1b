/-
  The walk over glacierlaw2.DiskFronts.
-/
import Derived.Test.YtlekffhacmdnnaaStpW
import Derived.Test.YtlekffhacmdnnaaFewW
import Derived.Test.YtlekffhacmdnnaaFroP
import Derived.Test.YtlekffhacmdnnaaKnW
import Derived.Test.YtlekffhacmdnnaaFilW
namespace Go.Proofs.Ytlekffhacmdnnaa
open Go.RowKit

/-- Both disks ahead of a round of a play. -/
structure Go2 (N k : Nat) (w0 wr : World) (db rb : Nat) (D E : Dsk) : Prop where
  pair : Pair (fun j => N ≤ j) wr db rb D E
  below : Below N w0 wr
  le : N ≤ wr.heap.size
  lenD : D.files.length ≤ k
  lenE : E.files.length ≤ k
  bornD : D.born ≤ k
  bornE : E.born ≤ k
theorem Go2.next {N k : Nat} {w0 wr w' : World} {db rb : Nat} {D E : Dsk} {x : PAct} (h : Go2 N k w0 wr db rb D E) (hp : Pair (More (fun j => N ≤ j) wr.heap.size) w' db rb (act D x) (act E x)) (hf : Fr (fun j => N ≤ j) wr w') : Go2 N (k + 1) w0 w' db rb (act D x) (act E x) := by
  have hl := h.le
  refine ⟨hp.mono fun j _ hj => hj.elim id fun hle => Nat.le_trans hl hle, h.below.trans (hf.below hl fun j hj hle => by omega), Nat.le_trans hl hf.size, ?_, ?_, ?_, ?_⟩
  · have := act_len D h.pair.one.srt x
    have := h.lenD
    omega
  · have := act_len E h.pair.two.srt x
    have := h.lenE
    omega
  · have := act_born D x
    have := h.bornD
    omega
  · have := act_born E x
    have := h.bornE
    omega
/-- What came in, read behind what was made since. -/
theorem RdA.lift {W w' : World} {v : Value} {xs : List PAct} (h : RdA W (fun _ => False) v xs) (hb : Below W.heap.size W w') {n : Nat} (hn : W.heap.size ≤ n) : RdA w' (fun j => n ≤ j) v xs :=
  h.step (Fr.of_new hb _) fun k hk hi => by
    have : n ≤ k := hi
    omega
theorem RdV.lift2 {W w' : World} {v : Value} {xs : List Value} (h : RdV W (fun _ => False) v xs) (hb : Below W.heap.size W w') {S : Nat → Prop} (hS : ∀ k, S k → W.heap.size ≤ k) : RdV w' S v xs :=
  h.step (Fr.of_new hb _) fun k hk hi => by
    have := hS k hi
    omega

set_option maxRecDepth 100000 in
set_option maxHeartbeats 8000000 in
theorem fronts_any (W : World) (v0 v1 : Value) (xs : List PAct) (ps : List Int) (h0 : RdA W (fun _ => False) v0 xs) (hfit : ∀ x ∈ xs, FitA x) (hxl : xs.length ≤ 1048576) (h1 : RdV W (fun _ => False) v1 (ps.map (Value.int .i64))) (hps : ∀ p ∈ ps, -9223372036854775808 ≤ p ∧ p ≤ 9223372036854775807) :
    Calls Try.prog 4 #[v0, v1] W fun e w' => e = .returned (.bool true) ∧ Below W.heap.size W w' := by
  have HR0 := Lib.hid h0
  have HR1 := Lib.hid h1
  have HPS := Lib.hid hps
  have HFit := Lib.hid hfit
  obtain ⟨p0, cap0, rfl, hc0, hl0, hm0⟩ := h0.form
  have hf := h1.form
  rw [List.length_map] at hf
  obtain ⟨p1, cap1, rfl, hc1, hl1, hm1⟩ := hf
  clear h0 h1 hps hfit
  go_enter Try.func4, Try.ntmps4
  go_wp2_with fail
  refine (known_any W).mono ?_
  rintro e w0 ⟨rfl, hb0⟩
  have HB0 := Lib.hid hb0
  clear hb0
  go_wp2_with fail
  refine (few_any w0 (fun j => W.heap.size ≤ j) _ xs (HR0.out.lift HB0.out (Nat.le_refl _))).mono ?_
  rintro e w0' ⟨⟨r, rfl⟩, n0, rfl⟩
  rcases r with _ | _
  · go_wp2_with fail
    go_ret
    exact ⟨rfl, below_drewN HB0.out _⟩
  · by_cases hpl : 500 < ps.length
    · have hpi : (500 : Int) < (ps.length : Int) := by omega
      go_wp2_with fail
      go_ret
      exact ⟨rfl, below_drewN HB0.out _⟩
    · have hpi : decide ((500 : Int) < (ps.length : Int)) = false := by simp; omega
      go_wp2_with fail
      generalize hw1 : World.drewN w0 n0 = w1
      have HB1 : Hid (Below W.heap.size W w1) := Lib.hid (by rw [← hw1]; exact below_drewN HB0.out _)
      clear hw1
      refine (new_any w1 1048576 (by omega) (by omega)).mono ?_
      rintro e w2 ⟨rfl, hd2, hb2⟩
      have HD2 := Lib.hid hd2
      have HB2 := Lib.hid hb2
      clear hd2 hb2
      go_wp2_with fail
      refine (rnew_any w2 1048576 (by omega) (by omega)).mono ?_
      rintro e w3 ⟨rfl, hr3, hb3⟩
      have hs1 := HB1.out.size
      have hs2 := HB2.out.size
      have HG3 : Hid (Go2 W.heap.size 0 W w3 w1.heap.size w2.heap.size ⟨1048576, [], 0⟩ ⟨1048576, [], 0⟩) := Lib.hid ⟨pair_of HD2.out hr3 hb3 (fun k hk => Nat.le_trans hs1 hk) (fun k hk => Nat.le_trans hs1 (Nat.le_trans hs2 hk)), (HB1.out.trans (HB2.out.mono hs1)).trans (hb3.mono (Nat.le_trans hs1 hs2)), Nat.le_trans (Nat.le_trans hs1 hs2) hb3.size, by simp, by simp, by simp, by simp⟩
      clear hr3 hb3
      go_wp2_with fail
      go_loopw [9] (fun i wr => ∃ (k : Nat) (D : Dsk), k ≤ xs.length ∧ i = .int .i64 (k : Int) ∧ Hid (Go2 W.heap.size k W wr w1.heap.size w2.heap.size D D)) (fun i _ => xs.length - (intOf i).toNat)
      case atStart => exact ⟨0, _, by omega, rfl, HG3⟩
      case round =>
        obtain ⟨k, D, hk, rfl, HG⟩ := hrel
        by_cases hlt : k < xs.length
        · obtain ⟨b, off, nv, bv, pv, rfl, hb, hS, hA, d0, d1, d2, d3, d4, d5⟩ := (HR0.out.lift HG.out.below (Nat.le_refl _)).at_ (List.getElem?_eq_getElem hlt)
          have hx := HFit.out xs[k] (List.getElem_mem hlt)
          generalize xs[k] = x at *
          have hq2 := hA.bytes.form
          have hq3 := hA.picks.form
          rw [bs_length] at hq2
          rw [List.length_map] at hq3
          obtain ⟨q1, c1, rfl, _⟩ := hA.names.formS
          obtain ⟨q2, c2, rfl, _⟩ := hq2
          obtain ⟨q3, c3, rfl, _⟩ := hq3
          have h1 := HG.out.lenD
          have h3 := HG.out.bornD
          have HC := Lib.hid (step_any wr _ _ _ D D HG.out.pair _ _ _ x hA hx (by omega) (by omega) (by omega) (by omega))
          clear hA hx
          unfold actV at HC
          go_wp2_with fail
          refine HC.out.mono ?_
          rintro e w4 ⟨rfl, hp4, hf4⟩
          have HG4 := Lib.hid (HG.out.next hp4 hf4)
          clear hp4 hf4 HC
          go_wp2_with fail
          go_roundw
          case rel => exact ⟨k + 1, _, by omega, by go_num, HG4⟩
          case measure => simp [intOf]; omega
        · have hcnt := HG.out.lenD
          have hN := HG.out.le
          have hd := HG.out.pair.one
          have hsrt := hd.srt
          have hles := hd.le
          have hnms := hd.names
          have HTw := Lib.hid (twin_any wr _ _ D hd (by omega))
          have HDr : Hid (Dk wr (fun j => W.heap.size ≤ j ∧ j < wr.heap.size) w1.heap.size D) := Lib.hid (hd.mono fun j hj hs => ⟨hs, hj⟩)
          have HSrt := Lib.hid hsrt
          have HLes := Lib.hid hles
          have HNms := Lib.hid hnms
          clear hd hsrt hles hnms
          go_wp2_with fail
          refine HTw.out.mono ?_
          rintro e w4 ⟨xb, rfl, ht4, hb4⟩
          have hs4 := hb4.size
          have hd4 := HDr.out.after hb4
          have hB4 := HG.out.below.trans (hb4.mono hN)
          have hp4 := HR1.out.lift2 hB4 (S := fun j => W.heap.size ≤ j ∧ j < wr.heap.size) (fun j hj => hj.1)
          have HC := Lib.hid (crash_any w4 _ _ D hd4 _ ps hp4 HPS.out (by omega))
          have HT4 := Lib.hid ht4
          have HB4 := Lib.hid hB4
          clear ht4 hb4 hd4 hB4 hp4 HTw
          go_wp2_with fail
          refine HC.out.mono ?_
          rintro e w5 ⟨rfl, hd5, hf5⟩
          have ht5 : Dk w5 (fun j => wr.heap.size ≤ j ∧ j < w4.heap.size) xb D := HT4.out.step hf5 (fun j _ h1 h2 => by
            have h3 : wr.heap.size ≤ j := h1
            have := h2.2
            omega) (fun j hj hs => ⟨hs, hj⟩)
          have hs5 := hf5.size
          have HB5 : Hid (Below W.heap.size W w5) := Lib.hid (HB4.out.trans (hf5.below (Nat.le_trans hN hs4) fun j hj h2 => by
            have := h2.1
            omega))
          have HD5 := Lib.hid hd5
          have HT5 := Lib.hid ht5
          have HLi := Lib.hid (list_any w5 _ _ D ht5 0 none (by omega))
          clear hd5 hf5 ht5 HC
          go_wp2_with fail
          refine HLi.out.mono ?_
          rintro e w6 ⟨vn, rfl, ho6, hb6⟩
          have hs6 := hb6.size
          have hcl : (crash D ps).files.length = D.files.length := crashL_length _ _
          have HLj := Lib.hid (list_any w6 _ _ (crash D ps) (HD5.out.after hb6) 0 none (by omega))
          obtain ⟨pn, cn, rfl, hcn, hmn⟩ := ho6.shape
          have hlen : (namesOf D.files).length = D.files.length := by simp [namesOf]
          have HO6 : Hid (RdV w6 (fun _ => False) (.slice pn (namesOf D.files).length cn) ((namesOf D.files).map encStr)) := Lib.hid (ho6.rdv (by omega) fun _ _ _ hf => hf)
          have HB6 := Lib.hid hb6
          clear ho6 hb6 HLi
          go_wp2_with fail
          refine HLj.out.mono ?_
          rintro e w7 ⟨vm, rfl, ho7, hb7⟩
          have hs7 := hb7.size
          obtain ⟨pm, cm, rfl, hcm', hmm⟩ := ho7.shape
          have hnames : namesOf (crash D ps).files = namesOf D.files := crashL_names _ _
          rw [hnames] at ho7 hcm' ⊢
          have hO7 : RdV w7 (fun _ => False) (.slice pm (namesOf D.files).length cm) ((namesOf D.files).map encStr) := ho7.rdv (by omega) fun _ _ _ hf => hf
          have hO6 : RdV w7 (fun _ => False) (.slice pn (namesOf D.files).length cn) ((namesOf D.files).map encStr) := HO6.out.same (Fr.of_new hb7 _)
          rw [hlen] at hO7 hO6 hcn hcm' ⊢
          have HO7 := Lib.hid hO7
          have HO6 := Lib.hid hO6
          have HD7 := Lib.hid (((HD5.out.after HB6.out).after hb7))
          have HT7 := Lib.hid (((HT5.out.after HB6.out).after hb7))
          have HB7 : Hid (Below W.heap.size W w7) := Lib.hid ((HB5.out.trans (HB6.out.mono (by omega))).trans (hb7.mono (by omega)))
          have HU1 := Lib.hid (used_any w7 _ _ _ HD7.out)
          have HU2 := Lib.hid (used_any w7 _ _ _ HT7.out)
          have hule : used (crash D ps).files ≤ used D.files := used_crashL _ _
          have hur := HT7.out.room
          generalize used (crash D ps).files = UC at *
          generalize used D.files = U at *
          have hdu : decide ((U : Int) < (UC : Int)) = false := by simp; omega
          have hdu2 : decide (U < UC) = false := by simp; omega
          clear ho7 hb7 hO7 hO6 HLj hnames
          go_wp2_with fail
          refine HU1.out.mono ?_
          rintro e w8 ⟨rfl, rfl⟩
          go_wp2_with fail
          refine HU2.out.mono ?_
          rintro e w8 ⟨rfl, rfl⟩
          clear HU1 HU2
          go_wp2_with fail
          go_loopw [13, 14, 15, 16, 17, 18] (fun i _ _ _ _ _ wr2 => ∃ (k2 : Nat), k2 ≤ D.files.length ∧ i = .int .i64 (k2 : Int) ∧ Hid (Below w7.heap.size w7 wr2)) (fun i _ _ _ _ _ _ => D.files.length - (intOf i).toNat)
          case atStart => exact ⟨0, by omega, rfl, Lib.hid (Below.refl _ _)⟩
          case round =>
            obtain ⟨k2, hk2, rfl, HR⟩ := hrel
            by_cases hl2 : k2 < D.files.length
            · obtain ⟨b6, o6, rfl, hb6, hT6, e6⟩ := (HO6.out.same (Fr.of_new HR.out _)).at_ (k := k2) (by rw [hlen]; exact hl2)
              obtain ⟨b7, o7, rfl, hb7, hT7, e7⟩ := (HO7.out.same (Fr.of_new HR.out _)).at_ (k := k2) (by rw [hlen]; exact hl2)
              simp only [namesOf, List.getElem_map] at e6 e7
              have hfm := List.getElem_mem hl2
              obtain ⟨pk, hpk⟩ := crashL_at D.files ps k2 _ (List.getElem?_eq_getElem hl2)
              generalize D.files[k2] = f at *
              have hlk := look_mem HSrt.out hfm
              have hD9 := HD7.out.after HR.out
              have hT9 := HT7.out.after HR.out
              have hlk2 : look f.name (crash D ps).files = some (torn f pk) := look_mem (f := torn f pk) hD9.srt (List.mem_of_getElem? hpk)
              obtain ⟨t1, t2, t3, t4⟩ := torn_front f pk (HLes.out f hfm)
              generalize torn f pk = f' at *
              obtain ⟨T, hT⟩ : ∃ T, f'.data = T := ⟨_, rfl⟩
              rw [hT] at t1 t2 t3 t4
              have hnl : f.name.length ≤ maxLen := by have := HNms.out f hfm; unfold maxLen; omega
              have hla : f.data.length ≤ 1073741824 := by
                have h1 := used_mem hfm
                have h2 := HT7.out.room
                omega
              have HRa := Lib.hid (read_some wr _ _ D hT9 f.name hnl f hlk)
              have HNl := Lib.hid hnl
              have HLk := Lib.hid hlk
              have HLk2 := Lib.hid hlk2
              have HTt := Lib.hid hT
              have HT4' := Lib.hid t4
              have HT3 := Lib.hid t3
              clear hD9 hT9 hlk hlk2 hpk hfm hT t4 t3
              go_wp2_with fail
              refine HRa.out.mono ?_
              rintro e w8 ⟨va, rfl, hoa, hba⟩
              obtain ⟨pa, ca, rfl, hca, hma⟩ := hoa.form
              have HRA : Hid (RdV w8 (fun _ => False) (.slice pa f.data.length ca) (bs f.data)) := Lib.hid (RdV.of_rd (hoa.rd (by omega)) (Nat.le_refl _) fun _ _ hf => hf)
              have HB8 : Hid (Below w7.heap.size w7 w8) := Lib.hid (HR.out.trans (hba.mono HR.out.size))
              have HRb := Lib.hid (read_some w8 _ _ (crash D ps) (HD7.out.after HB8.out) f.name HNl.out f' HLk2.out)
              have e6 := (below_cells hba b6 _ hb6).trans e6
              have e7 := (below_cells hba b7 _ hb7).trans e7
              have hb6 := Nat.lt_of_lt_of_le hb6 hba.size
              have hb7 := Nat.lt_of_lt_of_le hb7 hba.size
              clear hoa hba HRa
              go_wp2_with fail
              refine HRb.out.mono ?_
              rintro e w9 ⟨vb, rfl, hob, hbb⟩
              rw [HTt.out] at hob
              obtain ⟨pb, cb, rfl, hcb, hmb⟩ := hob.form
              have HB9 : Hid (Below w7.heap.size w7 w9) := Lib.hid (HB8.out.trans (hbb.mono HB8.out.size))
              have HRB : Hid (Rd w9 w9.heap.size (.slice pb T.length cb) T) := Lib.hid (hob.rd (by omega))
              have HRA9 : Hid (RdV w9 (fun _ => False) (.slice pa f.data.length ca) (bs f.data)) := Lib.hid (HRA.out.same (Fr.of_new hbb _))
              have HUa := Lib.hid (dunsynced_some w9 _ _ D (HT7.out.after HB9.out) f.name HNl.out f HLk.out)
              have e6 := (below_cells hbb b6 _ hb6).trans e6
              have e7 := (below_cells hbb b7 _ hb7).trans e7
              clear hob hbb HRb
              have esub : ((f.data.length - f.synced : Nat) : Int) = (f.data.length : Int) - (f.synced : Int) := by omega
              rw [esub] at HUa
              clear esub
              go_wp2_with fail
              refine HUa.out.mono ?_
              rintro e w10 ⟨rfl, n10, rfl⟩
              go_wp2_with fail
              generalize hX : World.drewN w9 n10 = X
              have HBX : Hid (Below w7.heap.size w7 X) := Lib.hid (by rw [← hX]; exact below_drewN HB9.out _)
              have HRAX : Hid (RdV X (fun _ => False) (.slice pa f.data.length ca) (bs f.data)) := Lib.hid (by rw [← hX]; exact HRA9.out.same ((Fr.refl _ _).drewN _))
              have HRBX : Hid (Rd X X.heap.size (.slice pb T.length cb) T) := Lib.hid (by rw [← hX]; exact HRB.out)
              obtain ⟨pc, cc, hcut, hrs⟩ := HRAX.out.cut (k := T.length) (by rw [bs_length]; exact t2)
              rw [show (bs f.data).take T.length = bs (f.data.take T.length) by simp [bs], HT3.out] at hcut
              have e6x : X.cell? ⟨b6, o6 + k2, none⟩ = some (.string ⟨f.name.toArray⟩) := by rw [← hX]; exact e6
              have e7x : X.cell? ⟨b7, o7 + k2, none⟩ = some (.string ⟨f.name.toArray⟩) := by rw [← hX]; exact e7
              have hcv1 : ∀ m, (convert 33 9 (.slice pc T.length cc)).run Try.prog (X.drewN m) = .ok (.string ⟨T.toArray⟩) (X.drewN m) := fun m => str_run (B := X.heap.size) hcut.rd
              have hcv2 : ∀ m, (convert 33 9 (.slice pb T.length cb)).run Try.prog (X.drewN m) = .ok (.string ⟨T.toArray⟩) (X.drewN m) := fun m => str_run (B := X.heap.size) HRBX.out
              have HUb : ∀ m, Calls Try.prog 22 #[.pointer (some ⟨w1.heap.size, 0, none⟩), .string ⟨f.name.toArray⟩] (X.drewN m) fun e w' => e = .returned (.int .i64 0) ∧ ∃ n, w' = (X.drewN m).drewN n := fun m => by
                have h1 := dunsynced_some (X.drewN m) _ _ (crash D ps) ((HD7.out.after HBX.out).drewN m) f.name HNl.out f' HLk2.out
                rw [HTt.out, HT4'.out, Nat.sub_self] at h1
                exact h1
              have hd1 : decide ((T.length : Int) < (f.data.length : Int) - ((f.data.length : Int) - (f.synced : Int))) = false := by simp; omega
              have hd2 : decide ((f.data.length : Int) < (T.length : Int)) = false := by simp; omega
              clear hX hcut e6 e7
              go_quiet ((go_at_call 22; exact q_drew (HUb _)))
              go_wp2_with fail
              go_roundw
              case rel => exact ⟨k2 + 1, by omega, by go_num, Lib.hid (below_drewN HBX.out _)⟩
              case measure => simp [intOf]; omega
            · have hB := HB7.out.trans (HR.out.mono (by have := HB7.out.size; omega))
              have hN2 := hB.size
              have hd9 := HD7.out.after HR.out
              have HTw := Lib.hid (twin_any wr _ _ _ hd9 (by omega))
              have HD9 : Hid (Dk wr (fun j => W.heap.size ≤ j ∧ j < wr.heap.size) w1.heap.size (crash D ps)) := Lib.hid (hd9.mono fun j hj hs => ⟨hs.elim (fun h => h.1) (fun hle => by omega), hj⟩)
              have HBq := Lib.hid hB
              have HTwice : Hid (used (crash (crash D ps) ps).files = used (crash D ps).files) := Lib.hid (crashL_twice _ _)
              have HLen2 : Hid ((crash (crash D ps) ps).files.length = D.files.length) := Lib.hid ((crashL_length _ _).trans hcl)
              clear hB hd9
              go_wp2_with fail
              refine HTw.out.mono ?_
              rintro e w11 ⟨xc, rfl, hu11, hb11⟩
              have hs11 := hb11.size
              have hB11 := HBq.out.trans (hb11.mono hN2)
              have HC := Lib.hid (crash_any w11 _ _ _ (HD9.out.after hb11) _ ps (HR1.out.lift2 hB11 (S := fun j => W.heap.size ≤ j ∧ j < wr.heap.size) (fun j hj => hj.1)) HPS.out (by omega))
              have HU11 := Lib.hid hu11
              have HB11 := Lib.hid hB11
              clear hu11 hb11 hB11 HTw
              go_wp2_with fail
              refine HC.out.mono ?_
              rintro e w12 ⟨rfl, hd12, hf12⟩
              have hu12 : Dk w12 (fun j => wr.heap.size ≤ j) xc (crash D ps) := HU11.out.step hf12 (fun j _ h1 h2 => by
                have h3 : wr.heap.size ≤ j := h1
                have := h2.2
                omega) (fun _ _ hs => hs)
              have HB12 : Hid (Below W.heap.size W w12) := Lib.hid (HB11.out.trans (hf12.below (Nat.le_trans hN2 hs11) fun j hj h2 => by
                have := h2.1
                omega))
              have HUa := Lib.hid (used_any w12 _ _ _ hd12)
              have HUb := Lib.hid (used_any w12 _ _ _ hu12)
              rw [HTwice.out] at HUa
              clear hd12 hf12 hu12 HC
              go_wp2_with fail
              refine HUa.out.mono ?_
              rintro e w13 ⟨rfl, rfl⟩
              go_wp2_with fail
              refine HUb.out.mono ?_
              rintro e w13 ⟨rfl, rfl⟩
              go_wp2_with fail
              go_ret
              exact ⟨rfl, HB12.out⟩
end Go.Proofs.Ytlekffhacmdnnaa
