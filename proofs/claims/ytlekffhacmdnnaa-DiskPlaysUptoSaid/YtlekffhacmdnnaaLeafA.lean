/-
  The walks over the smallest functions of package disk: what a name is, copies of bytes and of texts.
-/
import Derived.Test.YtlekffhacmdnnaaDk
import Derived.Test.YtlekffhacmdnnaaShelf
import Derived.WalkSpells
import Derived.BigQuiet
import Derived.Deep.QuietTactic
import Derived.Outline
namespace Go.Proofs.Ytlekffhacmdnnaa
open Go.RowKit

/-! ### names -/
def ofNm (c : UInt8) : Bool := (decide (97 ≤ c.toNat) && decide (c.toNat ≤ 122)) || (decide (48 ≤ c.toNat) && decide (c.toNat ≤ 57)) || decide (c.toNat = 45) || decide (c.toNat = 46)
def isName (s : List UInt8) : Bool := decide (1 ≤ s.length) && decide (s.length ≤ 64) && s.all ofNm

theorem isName_len {s : List UInt8} (h : isName s = true) : s.length ≤ 64 := by
  simp [isName] at h
  exact h.1.2

theorem clone_any (v : Value) (l : List UInt8) (w : World) (h : Rd w w.heap.size v l) :
    Calls Try.prog 46 #[v] w fun e w' => ∃ v', e = .returned v' ∧ Own w' w.heap.size v' l ∧ Below w.heap.size w w' := by
  obtain ⟨p, cap, rfl, hlc, ⟨hl, hcm, hcn⟩, hat⟩ := h
  cases p with
  | none =>
    have h0 : l = [] := by
      apply List.eq_nil_of_length_eq_zero
      rcases Nat.eq_zero_or_pos l.length with h0 | h0
      · exact h0
      · obtain ⟨b, off, e, _⟩ := hat h0
        cases e
    subst h0
    refine (Try.bytes_Clone_nil 0 cap w).mono ?_
    rintro e w' ⟨rfl, rfl⟩
    exact ⟨_, rfl, ⟨rfl, .inl ⟨rfl, rfl⟩⟩, Below.refl _ _⟩
  | some ad =>
    refine (Try.bytes_Clone_at ad l.length cap (l.map fun x => (x.toNat : Int)) w (by simp) hl ?_).mono ?_
    · intro i hi
      obtain ⟨b, off, e, _, hc⟩ := hat (by omega)
      obtain rfl := Option.some.inj e
      rw [Addr.add_mid, hc i hi]
      simp [hi]
    · rintro e w' ⟨v', rfl, ho, _, hb⟩
      exact ⟨v', rfl, Own.of ho rfl (by simp [bs, bv, Function.comp_def]), hb⟩

set_option maxHeartbeats 400000 in
theorem sclone_any (s : List UInt8) (w : World) (hs : s.length ≤ 281474976710656) :
    Calls Try.prog 56 #[.string ⟨s.toArray⟩] w fun e w' => e = .returned (.string ⟨s.toArray⟩) ∧ Below w.heap.size w w' := by
  go_enter Try.func56, Try.ntmps56
  go_wp2_with fail
  refine (Try.stringslite_Clone _ w (by simpa [ByteArray.size] using hs)).mono ?_
  rintro e w1 ⟨rfl, hb⟩
  go_wp2_with fail
  go_ret
  exact ⟨rfl, hb⟩

set_option maxHeartbeats 400000 in
theorem ofName_any (c : UInt8) (w : World) : Calls Try.prog 48 #[.int .u8 (c.toNat : Int)] w fun e w' => e = .returned (.bool (ofNm c)) ∧ w = w' := by
  have hlt : c.toNat < 256 := c.toNat_lt
  generalize hb : ofNm c = r
  have HB := Lib.hid hb
  clear hb
  go_enter Try.func48, Try.ntmps48
  go_wp2
  all_goals
    go_ret
    refine ⟨ret_bool ?_, rfl⟩
    rw [← HB.out]
    unfold ofNm
    rw [Bool.eq_iff_iff]
    simp
    omega

theorem all_snoc (s : List UInt8) (k : Nat) (h : k < s.length) : (s.take (k + 1)).all ofNm = ((s.take k).all ofNm && ofNm s[k]) := by
  rw [take_snoc s k _ (List.getElem?_eq_getElem h), List.all_append]
  simp only [List.all_cons, List.all_nil, Bool.and_true]

theorem ofName_at (s : List UInt8) (k : Nat) (hk : k < s.length) (w : World) (r : Bool) (hr : ofNm s[k] = r) :
    Calls Try.prog 48 #[.int .u8 (((⟨s.toArray⟩ : ByteArray)[k]'(by simpa [ByteArray.size] using hk)).toNat : Int)] w fun e w' => e = .returned (.bool r) ∧ w = w' := by
  subst hr
  exact ofName_any _ w

set_option maxHeartbeats 400000 in
theorem name_any (s : List UInt8) (w : World) (hs : s.length ≤ 140737488355328) : Calls Try.prog 20 #[.string ⟨s.toArray⟩] w fun e w' => e = .returned (.bool (isName s)) ∧ w = w' := by
  by_cases h1 : s.length < 1
  · have e : isName s = false := by simp [isName]; omega
    rw [e]
    clear e
    go_enter Try.func20, Try.ntmps20
    go_wp2_with fail
    go_ret
    exact ⟨rfl, rfl⟩
  · by_cases h2 : 64 < s.length
    · have e : isName s = false := by simp [isName]; omega
      rw [e]
      clear e
      go_enter Try.func20, Try.ntmps20
      go_wp2_with fail
      go_ret
      exact ⟨rfl, rfl⟩
    · have e : isName s = s.all ofNm := by simp [isName]; omega
      rw [e]
      clear e
      go_enter Try.func20, Try.ntmps20
      go_wp2_with fail
      go_loop [3, 14] (fun _ i => ∃ k : Nat, k ≤ s.length ∧ i = .int .i64 (k : Int) ∧ Hid ((s.take k).all ofNm = true)) (fun _ i => s.length - (intOf i).toNat)
      case atStart => exact ⟨0, by omega, rfl, Lib.hid rfl⟩
      case round =>
        obtain ⟨k, hk, rfl, HA⟩ := hrel
        by_cases hlt : k < s.length
        · have HS : Hid ((s.take (k + 1)).all ofNm = ((s.take k).all ofNm && ofNm s[k])) := Lib.hid (all_snoc s k hlt)
          cases hq : ofNm s[k] with
          | true =>
            have HC := ofName_at s k hlt w true hq
            have HQ := Lib.hid hq
            clear hq
            go_wp2_with fail
            refine HC.mono ?_
            rintro e w' ⟨rfl, rfl⟩
            clear HC
            go_wp2_with fail
            go_round
            case rel => exact ⟨k + 1, by omega, by go_num, Lib.hid (by rw [HS.out, HA.out, HQ.out]; rfl)⟩
            case measure => simp [intOf]; omega
          | false =>
            have HC := ofName_at s k hlt w false hq
            have HQ := Lib.hid hq
            clear hq
            go_wp2_with fail
            refine HC.mono ?_
            rintro e w' ⟨rfl, rfl⟩
            clear HC
            go_wp2_with fail
            go_ret
            refine ⟨ret_bool ?_, rfl⟩
            have h3 : s.all ofNm = ((s.take (k + 1)).all ofNm && (s.drop (k + 1)).all ofNm) := by rw [← List.all_append, List.take_append_drop]
            rw [h3, HS.out, HQ.out]
            simp
        · go_wp2_with fail
          go_ret
          refine ⟨ret_bool ?_, rfl⟩
          have h3 := HA.out
          rw [List.take_of_length_le (by omega)] at h3
          exact h3.symm
end Go.Proofs.Ytlekffhacmdnnaa
