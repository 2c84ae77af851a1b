/-
  The walk over the reference's List.
-/
import Derived.Test.YtlekffhacmdnnaaBgW
namespace Go.Proofs.Ytlekffhacmdnnaa
open Go.RowKit

def askd (ps : List (List UInt8)) (s : List UInt8) : Bool := decide (ps.length = 0) || begs ps s
set_option maxRecDepth 100000 in
set_option maxHeartbeats 2000000 in
theorem rlist_any (w : World) (S T : Nat → Prop) (rb : Nat) (D : Dsk) (h : Rf w S rb D) (pv : Value) (ps : List (List UInt8)) (hv : RdV w T pv (ps.map encStr)) (hcnt : D.files.length ≤ 1099511627776) :
    Calls Try.prog 15 #[.pointer (some ⟨rb, 0, none⟩), pv] w fun e w' => ∃ v, e = .returned v ∧ OwnS w' w.heap.size v ((namesOf D.files).filter (askd ps)) ∧ Below w.heap.size w w' := by
  obtain ⟨i0, hi, hz0, hz1, hz2⟩ := info_parts infoStr
  have HV := Lib.hid hv
  obtain ⟨pp, pcap, rfl, hpc, hp47, hpm⟩ := hv.formS
  obtain ⟨fv, us, h⟩ := h
  have c1 := h.c1
  have hrl := h.lt
  obtain ⟨p, cap, rfl, hlc, hcm, hat⟩ := h.form
  have HA := Lib.hid hat
  clear h hv hat
  go_enter Try.func15, Try.ntmps15
  go_wp2_with fail
  go_loopw [5, 6, 7, 8] (fun v i _ _ wr => ∃ (k : Nat), k ≤ D.files.length ∧ i = .int .i64 (k : Int) ∧ OwnS wr w.heap.size v ((namesOf (D.files.take k)).filter (askd ps)) ∧ Below w.heap.size w wr) (fun _ i _ _ _ => D.files.length - (intOf i).toNat)
  case atStart => exact ⟨0, by omega, rfl, ⟨rfl, .inl ⟨rfl, rfl⟩⟩, Below.refl _ _⟩
  case round =>
    obtain ⟨k, hk, rfl, hrow, hnx⟩ := hrel
    have c1r := (below_cells hnx rb 1 hrl).trans c1
    by_cases hlt : k < D.files.length
    · obtain ⟨g, u, rfl, d0, d1, d2, _, _⟩ := HA.out k _ (List.getElem?_eq_getElem hlt)
      have hgl := cell_lt d0
      have d0r := (below_cells hnx g _ hgl).trans d0
      have HSn : Hid ((namesOf (D.files.take (k + 1))).filter (askd ps) = (namesOf (D.files.take k)).filter (askd ps) ++ (if askd ps D.files[k].name then [D.files[k].name] else [])) := Lib.hid (by
        unfold namesOf
        rw [take_snoc _ k _ (List.getElem?_eq_getElem hlt), List.map_append, List.filter_append]
        congr 1
        simp only [List.map_cons, List.map_nil, List.filter_cons, List.filter_nil])
      have hfl : ((namesOf (D.files.take k)).filter (askd ps)).length ≤ k := by
        refine Nat.le_trans (List.length_filter_le _ _) ?_
        simp [namesOf]
        omega
      generalize (namesOf (D.files.take k)).filter (askd ps) = ss at *
      generalize D.files[k] = f at *
      have HB := Lib.hid hnx
      have HRow := Lib.hid hrow
      have hsz := hnx.size
      clear hnx hrow d0 d1 d2
      obtain ⟨Q0, hQ0⟩ : ∃ Q0 : Bool, ((ps.length : Int) == 0) = Q0 := ⟨_, rfl⟩
      have HQ0 := Lib.hid hQ0
      have hQd : Q0 = decide (ps.length = 0) := by
        rw [← hQ0, Bool.eq_iff_iff]
        simp only [beq_iff_eq, decide_eq_true_eq]
        omega
      have HQd := Lib.hid hQd
      clear hQd
      obtain ⟨Y, hY⟩ : ∃ Y, Y = wr := ⟨_, rfl⟩
      subst hY
      go_wp2_with fail
      go_loopw [7, 8] (fun q j wr => ∃ (l m : Nat), l ≤ ps.length ∧ q = .bool (Q0 || begs (ps.take l) f.name) ∧ j = .int .i64 (l : Int) ∧ wr = Y.drewN m) (fun _ j _ => ps.length - (intOf j).toNat)
      case atStart => exact ⟨0, 0, by omega, by simp [begs], rfl, rfl⟩
      case round =>
        obtain ⟨l, m, hl, rfl, rfl, rfl⟩ := hrel
        by_cases hll : l < ps.length
        · obtain ⟨b3, o3, rfl, hb3, hT3, hc3⟩ := (HV.out.same (Fr.of_new HB.out T)).at_ hll
          have HN := Lib.hid (begs_snoc ps f.name l hll)
          generalize ps[l] = q at *
          obtain ⟨X, hX⟩ : ∃ X, Y.drewN m = X := ⟨_, rfl⟩
          have c1x : X.cell? ⟨rb, 1, none⟩ = some (.slice (some ⟨g, 0, none⟩) D.files.length cap) := by rw [← hX]; exact c1r
          have d0x : X.cell? ⟨g, k * 3, none⟩ = some (.string ⟨f.name.toArray⟩) := by rw [← hX]; exact d0r
          have hc3x : X.cell? ⟨b3, o3 + l, none⟩ = some (.string ⟨q.toArray⟩) := by rw [← hX]; exact hc3
          have hqs : ∀ n, Calls Try.prog 44 #[.string ⟨f.name.toArray⟩, .string ⟨q.toArray⟩] (X.drewN n) fun e w' => e = .returned (.bool (Lib.hasPrefix f.name q)) ∧ ∃ a, w' = X.drewN a := fun n =>
            (rbegins_any f.name q (X.drewN n)).mono fun _ _ ⟨he, hw⟩ => ⟨he, n, hw⟩
          rw [hX]
          have HXX := Lib.hid hX
          clear hX
          generalize begs (ps.take l) f.name = r at *
          rcases hr : (Q0 || r) with _ | _
          · have HR2 := Lib.hid hr
            clear hr
            go_wp2_with fail
            go_quiet ((go_at_call 44; exact hqs _))
            go_wp2_with fail
            go_roundw
            case rel =>
              refine ⟨l + 1, _, by omega, ?_, by go_num, by rw [← HXX.out]; exact World.drewN_drewN _ _ _⟩
              rw [HN.out, ← Bool.or_assoc, HR2.out]
              rfl
            case measure => simp [intOf]; omega
          · have HR2 := Lib.hid hr
            clear hr
            go_wp2_with fail
            go_quiet (fail)
            go_wp2_with fail
            go_roundw
            case rel =>
              refine ⟨l + 1, _, by omega, ?_, by go_num, by rw [← HXX.out]; exact World.drewN_drewN _ _ _⟩
              rw [HN.out, ← Bool.or_assoc, HR2.out]
              rfl
            case measure => simp [intOf]; omega
        · have ha : (Q0 || begs (ps.take l) f.name) = askd ps f.name := by
            rw [List.take_of_length_le (by omega), HQd.out]
            rfl
          rw [ha]
          rcases hq : askd ps f.name with _ | _
          · have HQ := Lib.hid hq
            clear hq ha
            go_wp2_with fail
            go_roundw
            case rel =>
              refine ⟨k + 1, by omega, by go_num, ?_, below_drewN HB.out _⟩
              rw [HSn.out, HQ.out]
              simp only [Bool.false_eq_true, if_false, List.append_nil]
              exact HRow.out
            case measure => simp [intOf]; omega
          · have HQ := Lib.hid hq
            have hrw : World.ownsRow (Y.drewN m) w.heap.size 9 1 u5 ss.length (ss.map encStr) := HRow.out
            clear hq ha
            go_wp2_with (at_builtin; refine wpList_append_own _ rfl _ _ 32 rfl w.heap.size 9 i0 (.string ⟨#[]⟩) 1 16 Try.underlying32 hi hz0 hz1 hz2 rfl (by decide) _ _ _ rfl (hrw.alloc _) ⟨Y.heap.size, 0, none⟩ 1 1 [encStr f.name] rfl rfl (cell_one_new (Y.drewN m) _ _) (by simp [Value.oneCell', encStr]) (by unfold maxLen; omega) (by omega) (by simp; omega) ?_; intro v' w3 hown' hg3 hnil3; go_frame)
            go_roundw
            case rel =>
              refine ⟨k + 1, by omega, by go_num, ?_, ((below_drewN HB.out m).alloc hsz _).grown hg3 (by simp; omega) (fun j hj => (hrw.lt j hj).1)⟩
              rw [HSn.out, HQ.out]
              simpa [OwnS] using hown'
            case measure => simp [intOf]; omega
    · go_wp2_with fail
      go_ret
      rw [List.take_of_length_le (by omega)] at hrow
      exact ⟨_, rfl, hrow, hnx⟩
end Go.Proofs.Ytlekffhacmdnnaa
