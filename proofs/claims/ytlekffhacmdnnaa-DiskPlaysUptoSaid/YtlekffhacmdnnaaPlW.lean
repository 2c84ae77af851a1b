/-
  The walk over glacierlaw2.DiskPlays.
-/
import Derived.Test.YtlekffhacmdnnaaLsW
import Derived.Test.YtlekffhacmdnnaaRlW
import Derived.Test.YtlekffhacmdnnaaAkW
import Derived.Test.YtlekffhacmdnnaaFroW
import Derived.Test.YtlekffhacmdnnaaRqF
namespace Go.Proofs.Ytlekffhacmdnnaa
open Go.RowKit

theorem list_all (w : World) (S T : Nat → Prop) (db : Nat) (D : Dsk) (h : Dk w S db D) (pv : Value) (ps : List (List UInt8)) (hv : RdV w T pv (ps.map encStr)) (hcnt : D.files.length ≤ 1099511627776) :
    Calls Try.prog 14 #[.pointer (some ⟨db, 0, none⟩), pv] w fun e w' => ∃ v, e = .returned v ∧ OwnS w' w.heap.size v ((namesOf D.files).filter (askd ps)) ∧ Below w.heap.size w w' := by
  rcases Nat.eq_zero_or_pos ps.length with h0 | h0
  · have e : (namesOf D.files).filter (askd ps) = namesOf D.files := List.filter_eq_self.2 fun s _ => by simp [askd, h0]
    rw [e]
    obtain ⟨p, cap, rfl, _⟩ := hv.formS
    rw [h0]
    exact list_any w S db D h _ _ hcnt
  · have e : askd ps = begs ps := by
      funext s
      unfold askd
      rw [decide_eq_false (by omega)]
      rfl
    rw [e]
    exact list_pre w S T db D h pv ps hv h0 hcnt
def errOf (D : Dsk) (s : List UInt8) : Int := match look s D.files with
  | some _ => 0
  | none => 4
def unsOf (D : Dsk) (s : List UInt8) : Int := match look s D.files with
  | some f => ((f.data.length - f.synced : Nat) : Int)
  | none => 0
theorem read_err (w : World) (S : Nat → Prop) (db : Nat) (D : Dsk) (h : Dk w S db D) (s : List UInt8) (hs : s.length ≤ maxLen) :
    Calls Try.prog 18 #[.pointer (some ⟨db, 0, none⟩), .string ⟨s.toArray⟩] w fun e w' => (∃ v, e = .returned (.tuple #[v, .int .i64 (errOf D s)])) ∧ Below w.heap.size w w' := by
  unfold errOf
  rcases e : look s D.files with _ | f
  · refine (read_none w S db D h s hs e).mono ?_
    rintro e w' ⟨rfl, rfl⟩
    exact ⟨⟨_, rfl⟩, Below.refl _ _⟩
  · refine (read_some w S db D h s hs f e).mono ?_
    rintro e w' ⟨v, rfl, _, hb⟩
    exact ⟨⟨v, rfl⟩, hb⟩
theorem rread_err (w : World) (S : Nat → Prop) (rb : Nat) (D : Dsk) (h : Rf w S rb D) (s : List UInt8) :
    Calls Try.prog 19 #[.pointer (some ⟨rb, 0, none⟩), .string ⟨s.toArray⟩] w fun e w' => (∃ v, e = .returned (.tuple #[v, .int .i64 (errOf D s)])) ∧ ∃ n, w' = w.drewN n := by
  unfold errOf
  rcases e : look s D.files with _ | f
  · refine (rread_none w S rb D h s e).mono ?_
    rintro e w' ⟨rfl, n, rfl⟩
    exact ⟨⟨_, rfl⟩, n, rfl⟩
  · refine (rread_some w S rb D h s f e).mono ?_
    rintro e w' ⟨v, rfl, _, n, rfl⟩
    exact ⟨⟨v, rfl⟩, n, rfl⟩
theorem uns_all (w : World) (S : Nat → Prop) (db : Nat) (D : Dsk) (h : Dk w S db D) (s : List UInt8) (hs : s.length ≤ maxLen) :
    Calls Try.prog 22 #[.pointer (some ⟨db, 0, none⟩), .string ⟨s.toArray⟩] w fun e w' => e = .returned (.int .i64 (unsOf D s)) ∧ ∃ n, w' = w.drewN n := by
  unfold unsOf
  rcases e : look s D.files with _ | f
  · refine (dunsynced_none w S db D h s hs e).mono ?_
    rintro e w' ⟨rfl, rfl⟩
    exact ⟨rfl, 0, rfl⟩
  · exact dunsynced_some w S db D h s hs f e
theorem runs_all (w : World) (S : Nat → Prop) (rb : Nat) (D : Dsk) (h : Rf w S rb D) (s : List UInt8) :
    Calls Try.prog 23 #[.pointer (some ⟨rb, 0, none⟩), .string ⟨s.toArray⟩] w fun e w' => e = .returned (.int .i64 (unsOf D s)) ∧ ∃ n, w' = w.drewN n := by
  unfold unsOf
  rcases e : look s D.files with _ | f
  · exact runsynced_none w S rb D h s e
  · exact runsynced_some w S rb D h s f e

set_option maxRecDepth 100000 in
set_option maxHeartbeats 8000000 in
theorem plays_any (W : World) (z : Int) (v1 : Value) (xs : List PAct) (h1 : RdA W (fun _ => False) v1 xs) (hfit : ∀ x ∈ xs, FitA x) (hxl : xs.length ≤ 1048576) :
    Calls Try.prog 3 #[.int .i64 z, v1] W fun e w' => e = .returned (.bool true) ∧ Below W.heap.size W w' := by
  have HR0 := Lib.hid h1
  have HFit := Lib.hid hfit
  obtain ⟨p0, cap0, rfl, hc0, hl0, hm0⟩ := h1.form
  clear h1 hfit
  go_enter Try.func3, Try.ntmps3
  go_wp2_with fail
  refine (known_any W).mono ?_
  rintro e w0 ⟨rfl, hb0⟩
  have HB0 := Lib.hid hb0
  clear hb0
  go_wp2_with fail
  refine (few_any w0 (fun j => W.heap.size ≤ j) _ xs (HR0.out.lift HB0.out (Nat.le_refl _))).mono ?_
  rintro e w0' ⟨⟨r, rfl⟩, n0, rfl⟩
  rcases r with _ | _
  · go_wp2_with fail
    go_ret
    exact ⟨rfl, below_drewN HB0.out _⟩
  · go_wp2_with fail
    generalize hw1 : World.drewN w0 n0 = w1
    have HB1 : Hid (Below W.heap.size W w1) := Lib.hid (by rw [← hw1]; exact below_drewN HB0.out _)
    clear hw1
    by_cases hz : z < 1 ∨ 1073741824 < z
    · refine (new_bad w1 z hz).mono ?_
      rintro e w2 ⟨rfl, rfl⟩
      go_wp2_with fail
      refine (rnew_bad w1 z hz).mono ?_
      rintro e w2 ⟨rfl, rfl⟩
      go_wp2_with fail
      go_ret
      exact ⟨rfl, HB1.out⟩
    · obtain ⟨n, rfl⟩ : ∃ n : Nat, z = (n : Int) := ⟨z.toNat, by omega⟩
      refine (new_any w1 n (by omega) (by omega)).mono ?_
      rintro e w2 ⟨rfl, hd2, hb2⟩
      have HD2 := Lib.hid hd2
      have HB2 := Lib.hid hb2
      clear hd2 hb2
      go_wp2_with fail
      refine (rnew_any w2 n (by omega) (by omega)).mono ?_
      rintro e w3 ⟨rfl, hr3, hb3⟩
      have hs1 := HB1.out.size
      have hs2 := HB2.out.size
      have HG3 : Hid (Go2 W.heap.size 0 W w3 w1.heap.size w2.heap.size ⟨n, [], 0⟩ ⟨n, [], 0⟩) := Lib.hid ⟨pair_of HD2.out hr3 hb3 (fun k hk => Nat.le_trans hs1 hk) (fun k hk => Nat.le_trans hs1 (Nat.le_trans hs2 hk)), (HB1.out.trans (HB2.out.mono hs1)).trans (hb3.mono (Nat.le_trans hs1 hs2)), Nat.le_trans (Nat.le_trans hs1 hs2) hb3.size, by simp, by simp, by simp, by simp⟩
      clear hr3 hb3
      go_wp2_with fail
      go_loopw [5, 7, 9] (fun dv rv i wr => ∃ (k db rb : Nat) (D : Dsk), k ≤ xs.length ∧ i = .int .i64 (k : Int) ∧ dv = .pointer (some ⟨db, 0, none⟩) ∧ rv = .pointer (some ⟨rb, 0, none⟩) ∧ Hid (Go2 W.heap.size k W wr db rb D D)) (fun _ _ i _ => xs.length - (intOf i).toNat)
      case atStart => exact ⟨0, _, _, _, by omega, rfl, rfl, rfl, HG3⟩
      case round =>
        obtain ⟨k, db, rb, D, hk, rfl, rfl, rfl, HG⟩ := hrel
        obtain ⟨B, hB⟩ : ∃ B, B = wr := ⟨_, rfl⟩
        subst hB
        by_cases hlt : k < xs.length
        · obtain ⟨b, off, nv, bv, pv, rfl, hb, hS, hA, d0, d1, d2, d3, d4, d5⟩ := (HR0.out.lift HG.out.below (Nat.le_refl _)).at_ (List.getElem?_eq_getElem hlt)
          have hx := HFit.out xs[k] (List.getElem_mem hlt)
          generalize xs[k] = x at *
          have hq2 := hA.bytes.form
          have hq3 := hA.picks.form
          rw [bs_length] at hq2
          rw [List.length_map] at hq3
          obtain ⟨q1, c1, rfl, _⟩ := hA.names.formS
          obtain ⟨q2, c2, rfl, _⟩ := hq2
          obtain ⟨q3, c3, rfl, _⟩ := hq3
          have hNB := HG.out.le
          have h1 := HG.out.lenD
          have h3 := HG.out.bornD
          go_wp2_with fail
          obtain ⟨A, hAA⟩ : ∃ A, B.alloc (.cells #[.int .i64 x.op, .string ⟨x.name.toArray⟩, .string ⟨x.dest.toArray⟩, .slice q1 x.names.length c1, .slice q2 x.bytes.length c2, .slice q3 x.picks.length c3] 36) = A := ⟨_, rfl⟩
          rw [hAA]
          have hbA : Below B.heap.size B A := by
            rw [← hAA]
            exact (Below.refl _ _).alloc (Nat.le_refl _) _
          have hAb : A.heap[B.heap.size]? = some (.cells #[.int .i64 x.op, .string ⟨x.name.toArray⟩, .string ⟨x.dest.toArray⟩, .slice q1 x.names.length c1, .slice q2 x.bytes.length c2, .slice q3 x.picks.length c3] 36 (0, 0)) := by
            rw [← hAA]
            exact heap_alloc_new B _
          have hAc : ActC A (fun j => W.heap.size ≤ j ∧ j < B.heap.size) (.slice q1 x.names.length c1) (.slice q2 x.bytes.length c2) (.slice q3 x.picks.length c3) x := hA.step (Fr.of_new hbA _) (fun j _ hj => hj.1)
          have HC := Lib.hid (step_any A _ _ _ D D ((HG.out.pair.mono (T := fun j => W.heap.size ≤ j ∧ j < B.heap.size) (fun j hj hs => ⟨hs, hj⟩)).below hbA) _ _ _ x hAc hx (by omega) (by omega) (by omega) (by omega))
          unfold actV at HC
          have HbA := Lib.hid hbA
          have HAb := Lib.hid hAb
          have HA := Lib.hid hA
          have HX := Lib.hid hx
          clear hAA hbA hAb hAc hA hx d0 d1 d2 d3 d4 d5
          refine HC.out.mono ?_
          rintro e w6 ⟨rfl, hp6, hf6⟩
          have hAs := HbA.out.size
          have hBA : B.heap.size < A.heap.size := block_lt HAb.out
          have hB6 : Below W.heap.size B w6 := (HbA.out.mono hNB).trans (hf6.below (Nat.le_trans hNB hAs) fun j hj hs => by have := hs.1; omega)
          have h6b := hf6.keep HAb.out (fun hs => by have := hs.2; omega)
          have hl1 := act_len D HG.out.pair.one.srt x
          have hl2 := act_born D x
          have HP6 : Hid (Pair (fun j => W.heap.size ≤ j) w6 db rb (act D x) (act D x)) := Lib.hid (hp6.mono fun j _ hs => hs.elim (fun h => h.1) (fun hle => by omega))
          have HB6 := Lib.hid hB6
          have H6b := Lib.hid h6b
          have HAk := Lib.hid (alike_any w6 _ db rb _ HP6.out (by omega))
          have hlA : (act D x).files.length ≤ k + 1 := by omega
          have hbA2 : (act D x).born ≤ k + 1 := by omega
          generalize act D x = D' at *
          have e6 : (ans D x == ans D x) = true := by simp
          clear hp6 hf6 hB6 h6b hl1 hl2 HC
          go_wp2_with fail
          refine HAk.out.mono ?_
          rintro e w7 ⟨rfl, hb7⟩
          have hs6 := HB6.out.size
          have HB7 : Hid (Below W.heap.size B w7) := Lib.hid (HB6.out.trans (hb7.mono (by omega)))
          have h7b := (hb7.block _ (block_lt H6b.out)).trans H6b.out
          have HP7 := Lib.hid (HP6.out.below hb7)
          have HNm := Lib.hid (HA.out.names.same (Fr.of_below HB7.out))
          have HL1 := Lib.hid (list_all w7 _ _ db _ HP7.out.one _ x.names HNm.out (by omega))
          have t3 : w7.cell? ⟨B.heap.size, 3, none⟩ = some (.slice q1 x.names.length c1) := cell_of h7b rfl
          have H7b := Lib.hid h7b
          clear hb7 h7b HAk
          go_wp2_with fail
          refine HL1.out.mono ?_
          rintro e w8 ⟨vp, rfl, ho8, hb8⟩
          have htl : ((namesOf D'.files).filter (askd x.names)).length ≤ D'.files.length := by
            refine Nat.le_trans (List.length_filter_le _ _) ?_
            simp [namesOf]
          have HL2 := Lib.hid (rlist_any w8 _ _ rb D' (HP7.out.below hb8).two _ x.names (HNm.out.same (Fr.of_new hb8 _)) (by omega))
          generalize (namesOf D'.files).filter (askd x.names) = ts at *
          obtain ⟨pp, cp, rfl, hcp, hmp⟩ := ho8.shape
          have HO8 : Hid (RdV w8 (fun _ => False) (.slice pp ts.length cp) (ts.map encStr)) := Lib.hid (ho8.rdv (by omega) fun _ _ _ hf => hf)
          have HB8 : Hid (Below W.heap.size B w8) := Lib.hid (HB7.out.trans (hb8.mono (by have := HB7.out.size; omega)))
          have h8b := (hb8.block _ (block_lt H7b.out)).trans H7b.out
          have t3 : w8.cell? ⟨B.heap.size, 3, none⟩ = some (.slice q1 x.names.length c1) := cell_of h8b rfl
          have H8b := Lib.hid h8b
          have HP8 := Lib.hid (HP7.out.below hb8)
          clear ho8 hb8 h8b HL1
          go_wp2_with fail
          refine HL2.out.mono ?_
          rintro e Y ⟨vq, rfl, ho9, hb9⟩
          obtain ⟨pq, cq, rfl, hcq, hmq⟩ := ho9.shape
          have HO9 : Hid (RdV Y (fun _ => False) (.slice pq ts.length cq) (ts.map encStr)) := Lib.hid (ho9.rdv (by omega) fun _ _ _ hf => hf)
          have HO8 := Lib.hid (HO8.out.same (Fr.of_new hb9 _))
          have HB9 : Hid (Below W.heap.size B Y) := Lib.hid (HB8.out.trans (hb9.mono (by have := HB8.out.size; omega)))
          have h9b := (hb9.block _ (block_lt H8b.out)).trans H8b.out
          have t3 : Y.cell? ⟨B.heap.size, 3, none⟩ = some (.slice q1 x.names.length c1) := cell_of h9b rfl
          have H9b := Lib.hid h9b
          have HP9 := Lib.hid (HP8.out.below hb9)
          clear ho9 hb9 h9b HL2
          go_upto_region 19 with (fail)
          go_cut [84] (fun s84 wx => s84 = .bool false ∧ Y = wx)
          case first =>
            rcases Nat.eq_zero_or_pos x.names.length with hn0 | hn0
            · have q1 : ¬ (0 : Int) < (x.names.length : Int) := by omega
              have q2 : ¬ 0 < x.names.length := by omega
              clear hn0
              go_wp2_with fail
              go_meet
              exact ⟨rfl, rfl⟩
            · have q1 : (0 : Int) < (x.names.length : Int) := by omega
              go_wp2_with fail
              go_meet
              exact ⟨rfl, rfl⟩
          case rest =>
            obtain ⟨rfl, rfl⟩ := hcut
            go_wp2_with fail
            go_loopw [13] (fun j wr => ∃ (l m : Nat), l ≤ ts.length ∧ j = .int .i64 (l : Int) ∧ wr = Y.drewN m) (fun j _ => ts.length - (intOf j).toNat)
            case atStart => exact ⟨0, 0, by omega, rfl, rfl⟩
            case round =>
              obtain ⟨l, m, hl, rfl, rfl⟩ := hrel
              by_cases hgo : 0 < x.names.length ∧ l < ts.length
              · obtain ⟨hn0, hll⟩ := hgo
                obtain ⟨b6, o6, rfl, hb6, hT6, e6⟩ := HO8.out.at_ hll
                obtain ⟨b7, o7, rfl, hb7, hT7, e7⟩ := HO9.out.at_ hll
                generalize ts[l] = s at *
                have q1 : (0 : Int) < (x.names.length : Int) := by omega
                go_wp2_with fail
                go_quiet (fail)
                go_wp2_with fail
                go_roundw
                case rel => exact ⟨l + 1, _, by omega, by go_num, rfl⟩
                case measure => simp [intOf]; omega
              · have hex : ¬ l < ts.length ∨ (l < ts.length ∧ ¬ (0 : Int) < (x.names.length : Int) ∧ ¬ 0 < x.names.length) := by omega
                clear hgo
                rcases hex with hh | ⟨hh, qa1, qa2⟩
                all_goals
                  go_upto_region 26 with (fail)
                  generalize hX : World.drewN Y m = X
                  have HPX : Hid (Pair (fun j => W.heap.size ≤ j) X db rb D' D') := Lib.hid (by rw [← hX]; exact HP9.out.below (below_drewN (Below.refl _ _) _))
                  have HBX : Hid (Below W.heap.size B X) := Lib.hid (by rw [← hX]; exact below_drewN HB9.out _)
                  have HXb : Hid (X.heap[B.heap.size]? = some (.cells #[.int .i64 x.op, .string ⟨x.name.toArray⟩, .string ⟨x.dest.toArray⟩, .slice q1 x.names.length c1, .slice q2 x.bytes.length c2, .slice q3 x.picks.length c3] 36 (0, 0))) := Lib.hid (by rw [← hX]; exact H9b.out)
                  have t0 : X.cell? ⟨B.heap.size, 0, none⟩ = some (.int .i64 x.op) := cell_of HXb.out rfl
                  have t1 : X.cell? ⟨B.heap.size, 1, none⟩ = some (.string ⟨x.name.toArray⟩) := cell_of HXb.out rfl
                  clear hX t3
                  go_upto_if 108 with (fail)
                  go_cut [5, 7] (fun dv rv wx => ∃ db' rb', dv = .pointer (some ⟨db', 0, none⟩) ∧ rv = .pointer (some ⟨rb', 0, none⟩) ∧ Hid (Pair (fun j => W.heap.size ≤ j) wx db' rb' D' D' ∧ Below W.heap.size B wx ∧ wx.cell? ⟨B.heap.size, 1, none⟩ = some (.string ⟨x.name.toArray⟩) ∧ B.heap.size < wx.heap.size))
                  case first =>
                    rcases hq7 : (x.op == 7) with _ | _
                    · go_wp2_with fail
                      go_meet
                      exact ⟨db, rb, rfl, rfl, Lib.hid ⟨HPX.out, HBX.out, t1, block_lt HXb.out⟩⟩
                    · have HTa := Lib.hid (twin_any X _ db D' HPX.out.one (by omega))
                      clear hq7
                      go_wp2_with fail
                      refine HTa.out.mono ?_
                      rintro e w11 ⟨db', rfl, hd11, hb11⟩
                      have HRa := Lib.hid (rtwin_any w11 _ rb D' (HPX.out.below hb11).two (by omega))
                      have HD11 := Lib.hid hd11
                      have HB11 := Lib.hid hb11
                      clear hd11 hb11 HTa
                      go_wp2_with fail
                      refine HRa.out.mono ?_
                      rintro e w12 ⟨rb', rfl, hr12, hb12⟩
                      have hsX := HBX.out.size
                      have hs11 := HB11.out.size
                      have hbX := HB11.out.trans (hb12.mono hs11)
                      have HQ : Hid (Pair (fun j => W.heap.size ≤ j) w12 db' rb' D' D' ∧ Below W.heap.size B w12 ∧ w12.cell? ⟨B.heap.size, 1, none⟩ = some (.string ⟨x.name.toArray⟩) ∧ B.heap.size < w12.heap.size) := Lib.hid ⟨pair_of HD11.out hr12 hb12 (fun j hj => by have : X.heap.size ≤ j := hj; omega) (fun j hj => by omega), HBX.out.trans (hbX.mono (by omega)), (below_cells hbX B.heap.size 1 (block_lt HXb.out)).trans t1, Nat.lt_of_lt_of_le (block_lt HXb.out) hbX.size⟩
                      clear hr12 hb12 hbX HRa
                      go_wp2_with fail
                      go_meet
                      exact ⟨db', rb', rfl, rfl, HQ⟩
                  case rest =>
                    obtain ⟨db', rb', rfl, rfl, HQ⟩ := hcut
                    clear t0 t1
                    have t1 := HQ.out.2.2.1
                    have hnl : x.name.length ≤ maxLen := by have := HX.out.name; unfold maxLen; omega
                    have HRd := Lib.hid (read_err _ _ db' D' HQ.out.1.one x.name hnl)
                    have HNl := Lib.hid hnl
                    have HN2 : Hid (x.name.length ≤ 140737488355328) := Lib.hid (by have := HX.out.name; omega)
                    go_wp2_with fail
                    refine HRd.out.mono ?_
                    rintro e w13 ⟨⟨va, rfl⟩, hb13⟩
                    have hs13 := HQ.out.2.1.size
                    have HP13 := Lib.hid (HQ.out.1.below hb13)
                    have HB13 : Hid (Below W.heap.size B w13) := Lib.hid (HQ.out.2.1.trans (hb13.mono (by omega)))
                    have t1 : w13.cell? ⟨B.heap.size, 1, none⟩ = some (.string ⟨x.name.toArray⟩) := (below_cells hb13 B.heap.size 1 HQ.out.2.2.2).trans HQ.out.2.2.1
                    have T1 := Lib.hid t1
                    have HRr := Lib.hid (rread_err _ _ rb' D' HP13.out.two x.name)
                    clear hb13 HRd
                    go_wp2_with fail
                    refine HRr.out.mono ?_
                    rintro e w14 ⟨⟨vb, rfl⟩, m14, rfl⟩
                    clear HRr
                    go_wp2_with fail
                    generalize hX2 : World.drewN w13 m14 = X2
                    have HPX2 : Hid (Pair (fun j => W.heap.size ≤ j) X2 db' rb' D' D') := Lib.hid (by rw [← hX2]; exact HP13.out.below (below_drewN (Below.refl _ _) _))
                    have HBX2 : Hid (Below W.heap.size B X2) := Lib.hid (by rw [← hX2]; exact below_drewN HB13.out _)
                    have t1 : X2.cell? ⟨B.heap.size, 1, none⟩ = some (.string ⟨x.name.toArray⟩) := by rw [← hX2]; exact T1.out
                    have HUa : ∀ m, Calls Try.prog 22 #[.pointer (some ⟨db', 0, none⟩), .string ⟨x.name.toArray⟩] (X2.drewN m) fun e w' => e = .returned (.int .i64 (unsOf D' x.name)) ∧ ∃ n, w' = (X2.drewN m).drewN n := fun m => uns_all (X2.drewN m) _ db' D' (HPX2.out.below (below_drewN (Below.refl _ _) _)).one x.name HNl.out
                    have HUb : ∀ m, Calls Try.prog 23 #[.pointer (some ⟨rb', 0, none⟩), .string ⟨x.name.toArray⟩] (X2.drewN m) fun e w' => e = .returned (.int .i64 (unsOf D' x.name)) ∧ ∃ n, w' = (X2.drewN m).drewN n := fun m => runs_all (X2.drewN m) _ rb' D' (HPX2.out.below (below_drewN (Below.refl _ _) _)).two x.name
                    have HNa : ∀ m, Calls Try.prog 20 #[.string ⟨x.name.toArray⟩] (X2.drewN m) fun e w' => e = .returned (.bool (isName x.name)) ∧ X2.drewN m = w' := fun m => name_any x.name _ HN2.out
                    have HNb : ∀ m, Calls Try.prog 21 #[.string ⟨x.name.toArray⟩] (X2.drewN m) fun e w' => e = .returned (.bool (isName x.name)) ∧ X2.drewN m = w' := fun m => rname_any x.name _ HN2.out
                    have HGn : Hid (∀ m, Go2 W.heap.size (k + 1) W (X2.drewN m) db' rb' D' D') := Lib.hid fun m => ⟨HPX2.out.below (below_drewN (Below.refl _ _) _), below_drewN (HG.out.below.trans HBX2.out) _, Nat.le_trans hNB HBX2.out.size, hlA, hlA, hbA2, hbA2⟩
                    clear hX2
                    generalize errOf D' x.name = ev at *
                    generalize unsOf D' x.name = uv at *
                    generalize isName x.name = nb at *
                    go_quiet (first
                      | (go_at_call 20; exact q_same (HNa _))
                      | (go_at_call 21; exact q_same (HNb _))
                      | (go_at_call 22; exact q_drew (HUa _))
                      | (go_at_call 23; exact q_drew (HUb _)))
                    go_wp2_with fail
                    go_roundw
                    case rel => exact ⟨k + 1, db', rb', D', by omega, by go_num, rfl, rfl, Lib.hid (HGn.out _)⟩
                    case measure => simp [intOf]; omega
        · go_wp2_with fail
          go_ret
          exact ⟨rfl, HG.out.below⟩
end Go.Proofs.Ytlekffhacmdnnaa
