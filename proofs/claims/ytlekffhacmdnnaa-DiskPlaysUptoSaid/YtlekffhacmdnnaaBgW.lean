/-
  Does a name begin with one of the prefixes: the walks over both begins, the library's two functions that hand the test on, and the test itself.
-/
import Derived.Test.YtlekffhacmdnnaaActP
namespace Go.Proofs.Ytlekffhacmdnnaa
open Go.RowKit

def begs (ps : List (List UInt8)) (s : List UInt8) : Bool := ps.any fun p => Lib.hasPrefix s p
theorem begs_snoc (ps : List (List UInt8)) (s : List UInt8) (k : Nat) (h : k < ps.length) : begs (ps.take (k + 1)) s = (begs (ps.take k) s || Lib.hasPrefix s ps[k]) := by
  unfold begs
  rw [take_snoc ps k _ (List.getElem?_eq_getElem h), List.any_append]
  simp
theorem begs_true {ps : List (List UInt8)} {s : List UInt8} {k : Nat} (h : k < ps.length) (hp : Lib.hasPrefix s ps[k] = true) : begs ps s = true := List.any_eq_true.2 ⟨_, List.getElem_mem h, hp⟩

set_option maxRecDepth 100000 in
set_option maxHeartbeats 1000000 in
theorem rbegins_any (s p : List UInt8) (w : World) :
    Calls Try.prog 44 #[.string ⟨s.toArray⟩, .string ⟨p.toArray⟩] w fun e w' => e = .returned (.bool (Lib.hasPrefix s p)) ∧ w' = w := by
  have hq := Lib.hasPrefix_raw ⟨s.toArray⟩ ⟨p.toArray⟩
  have z1 : ∀ l : List UInt8, (⟨l.toArray⟩ : ByteArray).size = l.length := fun l => by simp [ByteArray.size]
  rw [z1, z1] at hq
  simp only at hq
  rw [← hq]
  clear hq z1
  go_enter Try.func44, Try.ntmps44
  go_wp2
  · rename_i h
    go_ret
    refine ⟨ret_bool ?_, rfl⟩
    simp [h]
  · rename_i h
    go_ret
    refine ⟨ret_bool ?_, rfl⟩
    simp [h]

set_option maxHeartbeats 400000 in
theorem pre_any (s p : List UInt8) (w : World) (cb : Nat) (hc : w.cell? ⟨cb, 0, none⟩ = some (.string ⟨s.toArray⟩)) :
    Calls Try.prog 61 #[.string ⟨p.toArray⟩, .pointer (some ⟨cb, 0, none⟩)] w fun e w' => e = .returned (.bool (Lib.hasPrefix s p)) ∧ w' = w := by
  have HC := Try.strings_HasPrefix ⟨s.toArray⟩ ⟨p.toArray⟩ w
  simp only at HC
  go_enter Try.func61, Try.ntmps61
  go_wp2_with fail
  refine HC.mono ?_
  rintro e w' ⟨rfl, rfl⟩
  go_wp2_with fail
  go_ret
  exact ⟨rfl, rfl⟩

set_option maxRecDepth 100000 in
set_option maxHeartbeats 1000000 in
theorem index_any (w : World) (T : Nat → Prop) (v : Value) (ps : List (List UInt8)) (hv : RdV w T v (ps.map encStr)) (s : List UInt8) (cb : Nat) (hc : w.cell? ⟨cb, 0, none⟩ = some (.string ⟨s.toArray⟩)) :
    Calls Try.prog 66 #[v, .func (.func 61) #[] #[.pointer (some ⟨cb, 0, none⟩)]] w fun e w' => (∃ r : Int, e = .returned (.int .i64 r) ∧ decide (0 ≤ r) = begs ps s) ∧ w' = w := by
  have HV := Lib.hid hv
  obtain ⟨p, cap, rfl, hlc, hl47, hcm⟩ := hv.formS
  have HC := Lib.hid (fun q => pre_any s q w cb hc)
  clear hv hc
  go_enter Try.func66, Try.ntmps66
  go_wp2_with fail
  go_loop [8] (fun i => ∃ k : Nat, k ≤ ps.length ∧ i = .int .i64 (k : Int) ∧ Hid (begs (ps.take k) s = false)) (fun i => ps.length - (intOf i).toNat)
  case atStart => exact ⟨0, by omega, rfl, Lib.hid rfl⟩
  case round =>
    obtain ⟨k, hk, rfl, HB⟩ := hrel
    by_cases hlt : k < ps.length
    · obtain ⟨b, off, rfl, hb, hT, hc⟩ := HV.out.at_ hlt
      have HN := Lib.hid (begs_snoc ps s k hlt)
      have HT := Lib.hid (begs_true (s := s) hlt)
      generalize ps[k] = q at *
      have HCq := HC.out q
      rcases hq : Lib.hasPrefix s q with _ | _
      · rw [hq] at HN HCq
        clear hq HT
        go_wp2_with (go_at_call 61; refine HCq.mono ?_; rintro e w' ⟨rfl, rfl⟩)
        go_round
        case rel => exact ⟨k + 1, by omega, by go_num, Lib.hid (by rw [HN.out, HB.out]; rfl)⟩
        case measure => simp [intOf]; omega
      · have HT2 := Lib.hid (HT.out hq)
        rw [hq] at HCq
        clear hq HT HN
        go_wp2_with (go_at_call 61; refine HCq.mono ?_; rintro e w' ⟨rfl, rfl⟩)
        go_ret
        exact ⟨⟨_, rfl, by rw [HT2.out]; simp⟩, rfl⟩
    · go_wp2_with fail
      go_ret
      refine ⟨⟨_, rfl, ?_⟩, rfl⟩
      have h3 := HB.out
      rw [List.take_of_length_le (by omega)] at h3
      rw [h3]
      rfl

set_option maxHeartbeats 400000 in
theorem cont_any (w : World) (T : Nat → Prop) (v : Value) (ps : List (List UInt8)) (hv : RdV w T v (ps.map encStr)) (s : List UInt8) (cb : Nat) (hc : w.cell? ⟨cb, 0, none⟩ = some (.string ⟨s.toArray⟩)) :
    Calls Try.prog 60 #[v, .func (.func 61) #[] #[.pointer (some ⟨cb, 0, none⟩)]] w fun e w' => e = .returned (.bool (begs ps s)) ∧ w' = w := by
  have HC := Lib.hid (index_any w T v ps hv s cb hc)
  clear hv hc
  go_enter Try.func60, Try.ntmps60
  go_wp2_with fail
  refine HC.out.mono ?_
  rintro e w' ⟨⟨r, rfl, hr⟩, rfl⟩
  have HR := Lib.hid hr
  clear hr
  go_wp2_with fail
  go_ret
  exact ⟨ret_bool HR.out, rfl⟩

set_option maxHeartbeats 400000 in
theorem begins_any (w : World) (T : Nat → Prop) (v : Value) (ps : List (List UInt8)) (hv : RdV w T v (ps.map encStr)) (s : List UInt8) :
    Calls Try.prog 42 #[.string ⟨s.toArray⟩, v] w fun e w' => e = .returned (.bool (begs ps s)) ∧ w' = w.alloc (.cells #[.string ⟨s.toArray⟩] 9) := by
  obtain ⟨p, cap, rfl, hlc, hl47, hcm⟩ := hv.formS
  have HC := Lib.hid (cont_any (w.alloc (.cells #[.string ⟨s.toArray⟩] 9)) T _ ps (hv.same ((Fr.refl T w).alloc _)) s w.heap.size (cell_of (heap_alloc_new w _) rfl))
  clear hv
  go_enter Try.func42, Try.ntmps42
  go_wp2_with fail
  refine HC.out.mono ?_
  rintro e w' ⟨rfl, rfl⟩
  go_wp2_with fail
  go_ret
  exact ⟨rfl, rfl⟩
end Go.Proofs.Ytlekffhacmdnnaa
