/-
  The walk over the reference's Name; Lose.
-/
import Derived.Test.YtlekffhacmdnnaaRdW
namespace Go.Proofs.Ytlekffhacmdnnaa
open Go.RowKit

theorem ofNm_is (c : UInt8) : ofNm c = true ↔ (97 ≤ c.toNat ∧ c.toNat ≤ 122) ∨ (48 ≤ c.toNat ∧ c.toNat ≤ 57) ∨ c.toNat = 45 ∨ c.toNat = 46 := by
  unfold ofNm
  simp only [Bool.or_eq_true, Bool.and_eq_true, decide_eq_true_eq]
  omega
set_option maxRecDepth 100000 in
set_option maxHeartbeats 2000000 in
theorem rname_any (s : List UInt8) (w : World) (hs : s.length ≤ 140737488355328) : Calls Try.prog 21 #[.string ⟨s.toArray⟩] w fun e w' => e = .returned (.bool (isName s)) ∧ w = w' := by
  by_cases h1 : s.length < 1
  · have e : isName s = false := by simp [isName]; omega
    rw [e]
    clear e
    go_enter Try.func21, Try.ntmps21
    go_wp2_with fail
    go_ret
    exact ⟨rfl, rfl⟩
  · by_cases h2 : 64 < s.length
    · have e : isName s = false := by simp [isName]; omega
      rw [e]
      clear e
      go_enter Try.func21, Try.ntmps21
      go_wp2_with fail
      go_ret
      exact ⟨rfl, rfl⟩
    · have e : isName s = s.all ofNm := by simp [isName]; omega
      rw [e]
      clear e
      go_enter Try.func21, Try.ntmps21
      go_wp2_with fail
      go_loop [3, 4] (fun i _ => ∃ k : Nat, k ≤ s.length ∧ i = .int .i64 (k : Int) ∧ Hid ((s.take k).all ofNm = true)) (fun i _ => s.length - (intOf i).toNat)
      case atStart => exact ⟨0, by omega, rfl, Lib.hid rfl⟩
      case round =>
        obtain ⟨k, hk, rfl, HA⟩ := hrel
        by_cases hlt : k < s.length
        · have HS : Hid ((s.take (k + 1)).all ofNm = ((s.take k).all ofNm && ofNm s[k])) := Lib.hid (all_snoc s k hlt)
          obtain ⟨c, hc⟩ : ∃ c, s[k] = c := ⟨_, rfl⟩
          have hcb : (((⟨s.toArray⟩ : ByteArray)[k]'(by simpa [ByteArray.size] using hlt))) = c := hc
          rw [hc] at HS
          have hlt2 : c.toNat < 256 := c.toNat_lt
          generalize hb : ofNm c = r at HS
          have HB := Lib.hid hb
          clear hb
          go_wp2
          all_goals simp only [Bool.not_eq_true', Bool.not_eq_false', beq_iff_eq, decide_eq_false_iff_not, decide_eq_true_eq, beq_eq_false_iff_ne, ne_eq] at *
          all_goals first
            | (refine ⟨⟨k + 1, by omega, by go_num, Lib.hid ?_⟩, by simp [intOf]; omega⟩
               rw [HS.out, HA.out, HB.out.symm.trans ((ofNm_is c).2 (by omega))]
               rfl)
            | (go_ret
               refine ⟨ret_bool ?_, rfl⟩
               have h3 : s.all ofNm = ((s.take (k + 1)).all ofNm && (s.drop (k + 1)).all ofNm) := by rw [← List.all_append, List.take_append_drop]
               have h4 : r = false := Bool.eq_false_iff.2 fun e => by
                 have := (ofNm_is c).1 (HB.out.trans e)
                 omega
               rw [h3, HS.out, h4]
               simp)
        · go_wp2_with fail
          go_ret
          refine ⟨ret_bool ?_, rfl⟩
          have h3 := HA.out
          rw [List.take_of_length_le (by omega)] at h3
          exact h3.symm

set_option maxHeartbeats 400000 in
theorem rlose_any (w : World) (S : Nat → Prop) (rb : Nat) (D : Dsk) (h : Rf w S rb D) (hb : D.born ≤ 1099511627776) :
    Calls Try.prog 39 #[.pointer (some ⟨rb, 0, none⟩)] w fun e w' => e = .returned (.tuple #[]) ∧ Rf w' S rb ⟨D.size, [], D.born + 1⟩ ∧ Fr S w w' := by
  obtain ⟨fv, us, h⟩ := h
  have c1 := h.c1
  have c2 := h.c2
  have z1 := h.fz 1
  have z2 := h.fz 2
  have hlt := h.lt
  have HH := Lib.hid h
  clear h
  go_enter Try.func39, Try.ntmps39
  go_wp2_with fail
  go_end0
  have hD := HH.out
  have b1 := setCell_same hD.blk (off := 1) (.slice none 0 0)
  have b2 := setCell_same b1 (off := 2) (.int .i64 ((D.born : Int) + 1))
  refine ⟨rfl, ⟨.slice none 0 0, [], ⟨b2, ⟨rfl, .inl ⟨rfl, rfl⟩⟩, rfl, (fun k f u hf => by cases hf), (fun _ hf => by cases hf), List.Pairwise.nil, (fun _ hf => by cases hf), by simp [used], hD.size, hD.inS, (fun k hk => by cases hk)⟩⟩, ((Fr.refl S w).then (Fr.setCell S w hD.inS _)).then (Fr.setCell S _ hD.inS _)⟩
end Go.Proofs.Ytlekffhacmdnnaa
