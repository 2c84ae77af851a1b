/-
  The walks over the reference's New, Used, Name, Lose, all.
-/
import Derived.Test.YtlekffhacmdnnaaRfA
import Derived.Test.YtlekffhacmdnnaaLeafB
import Derived.Test.YtlekffhacmdnnaaSynW
namespace Go.Proofs.Ytlekffhacmdnnaa
open Go.RowKit

theorem rblank (w : World) (S : Nat → Prop) (rb n : Nat) (hS : S rb) (h : w.heap[rb]? = some (.cells #[.int .i64 (n : Int), .slice none 0 0, .int .i64 0] 57 (0, 0))) (hn : n ≤ 1073741824) : Rf w S rb ⟨n, [], 0⟩ :=
  ⟨.slice none 0 0, [], by simpa using h, ⟨rfl, .inl ⟨rfl, rfl⟩⟩, rfl, (fun k f u hf => by simp at hf), (fun _ hf => by cases hf), List.Pairwise.nil, (fun _ hf => by cases hf), by simp [used], hn, hS, (fun k hk => by cases hk)⟩

set_option maxHeartbeats 400000 in
theorem rnew_bad (w : World) (n : Int) (hn : n < 1 ∨ 1073741824 < n) : Calls Try.prog 11 #[.int .i64 n] w fun e w' => e = .returned (.tuple #[.pointer none, .int .i64 1]) ∧ w = w' := by
  by_cases h1 : n < 1
  · go_enter Try.func11, Try.ntmps11
    go_wp2
    go_ret2
    exact ⟨rfl, rfl⟩
  · have h2 : 1073741824 < n := by omega
    go_enter Try.func11, Try.ntmps11
    go_wp2
    go_ret2
    exact ⟨rfl, rfl⟩
set_option maxHeartbeats 400000 in
theorem rnew_any (w : World) (n : Nat) (h1 : 1 ≤ n) (h2 : n ≤ 1073741824) : Calls Try.prog 11 #[.int .i64 (n : Int)] w fun e w' => e = .returned (.tuple #[.pointer (some ⟨w.heap.size, 0, none⟩), .int .i64 0]) ∧ Rf w' (fun k => w.heap.size ≤ k) w.heap.size ⟨n, [], 0⟩ ∧ Below w.heap.size w w' := by
  have h3 : 1 ≤ (n : Int) := by omega
  have h4 : (n : Int) ≤ 1073741824 := by omega
  go_enter Try.func11, Try.ntmps11
  go_wp2
  go_ret2
  exact ⟨rfl, rblank _ _ _ n (Nat.le_refl _) (heap_alloc_new w _) h2, (Below.refl _ _).alloc (Nat.le_refl _) _⟩

theorem used_snoc (l : List Fl) (k : Nat) (f : Fl) (h : l[k]? = some f) : used (l.take (k + 1)) = used (l.take k) + f.data.length := by
  rw [take_snoc l k f h]
  simp [used]
theorem used_take (l : List Fl) (k : Nat) : used (l.take k) ≤ used l := by
  have : used l = used (l.take k) + used (l.drop k) := by
    unfold used
    rw [← List.sum_append, ← List.map_append, List.take_append_drop]
  omega

set_option maxRecDepth 100000 in
set_option maxHeartbeats 1000000 in
theorem rused_any (w : World) (S : Nat → Prop) (rb : Nat) (D : Dsk) (h : Rf w S rb D) :
    Calls Try.prog 40 #[.pointer (some ⟨rb, 0, none⟩)] w fun e w' => e = .returned (.int .i64 (used D.files : Int)) ∧ w = w' := by
  obtain ⟨fv, us, h⟩ := h
  have c1 := h.c1
  have hroom := h.room
  have hsize := h.size
  obtain ⟨p, cap, rfl, hlc, hcm, hat⟩ := h.form
  have HA := Lib.hid hat
  clear hat h
  go_enter Try.func40, Try.ntmps40
  go_wp2_with fail
  go_loop [3, 4] (fun n i => ∃ k : Nat, k ≤ D.files.length ∧ i = .int .i64 (k : Int) ∧ n = .int .i64 (used (D.files.take k) : Int)) (fun _ i => D.files.length - (intOf i).toNat)
  case atStart => exact ⟨0, by omega, rfl, rfl⟩
  case round =>
    obtain ⟨k, hk, rfl, rfl⟩ := hrel
    by_cases hlt : k < D.files.length
    · obtain ⟨g, u, rfl, d0, d1, d2, _, hin⟩ := HA.out k _ (List.getElem?_eq_getElem hlt)
      have hsn := used_snoc D.files k _ (List.getElem?_eq_getElem hlt)
      have htk := used_take D.files (k + 1)
      rw [hsn] at htk
      have HSN := Lib.hid hsn
      clear hsn
      generalize D.files[k] = f at *
      obtain ⟨p2, cap2, rfl, hlc2, hl472, hcm2, hat2⟩ := hin.rd.form
      clear hat2 hin
      generalize used (D.files.take k) = R at *
      go_wp2_with fail
      go_round
      case rel => exact ⟨k + 1, by omega, by go_num, by rw [HSN.out]; go_num⟩
      case measure => simp [intOf]; omega
    · have e : used (D.files.take k) = used D.files := by rw [List.take_of_length_le (by omega)]
      rw [e]
      clear e
      go_wp2_with fail
      go_ret
      exact ⟨rfl, rfl⟩

def rhasAll (l : List Fl) (names : List (List UInt8)) : Bool := hasAll l names
set_option maxRecDepth 100000 in
set_option maxHeartbeats 1000000 in
theorem rall_any (w : World) (S T : Nat → Prop) (rb : Nat) (D : Dsk) (h : Rf w S rb D) (v : Value) (names : List (List UInt8)) (hv : RdV w T v (names.map encStr)) :
    Calls Try.prog 58 #[.pointer (some ⟨rb, 0, none⟩), v] w fun e w' => e = .returned (.bool (hasAll D.files names)) ∧ ∃ n, w' = w.drewN n := by
  have HV := Lib.hid hv
  have HH := Lib.hid h
  obtain ⟨p, cap, rfl, hlc, hl47, hcm⟩ := hv.formS
  clear hv h
  go_enter Try.func58, Try.ntmps58
  go_wp2_with fail
  go_loopw [5, 6, 7] (fun i _ _ wr => ∃ k m : Nat, k ≤ names.length ∧ i = .int .i64 (k : Int) ∧ wr = w.drewN m ∧ Hid (hasAll D.files (names.take k) = true)) (fun i _ _ _ => names.length - (intOf i).toNat)
  case atStart => exact ⟨0, 0, by omega, rfl, rfl, Lib.hid rfl⟩
  case round =>
    obtain ⟨k, m, hk, rfl, rfl, HB⟩ := hrel
    by_cases hlt : k < names.length
    · obtain ⟨b, off, rfl, hb, hT, hc⟩ := HV.out.at_ hlt
      have HN := Lib.hid (hasAll_snoc D.files names k hlt)
      have HC := Lib.hid (hasAll_cut D.files names (k + 1))
      generalize names[k] = s at *
      have HF := Lib.hid (find_any (w.drewN m) S rb D (HH.out.step ((Fr.refl (fun _ => False) w).drewN m) (fun _ _ _ hf => hf) (fun _ _ hs => hs)) s)
      rcases hq : (look s D.files).isSome with _ | _
      · rw [hq] at HN HF
        clear hq
        go_wp2_with fail
        refine HF.out.mono ?_
        rintro e w' ⟨rfl, n, rfl⟩
        go_wp2_with fail
        go_ret
        refine ⟨ret_bool ?_, m + n, rfl⟩
        rw [HC.out, HN.out]
        simp
      · rw [hq] at HN HF
        clear hq
        go_wp2_with fail
        refine HF.out.mono ?_
        rintro e w' ⟨rfl, n, rfl⟩
        go_wp2_with fail
        go_roundw
        case rel => exact ⟨k + 1, m + n, by omega, by go_num, rfl, Lib.hid (by rw [HN.out, HB.out]; rfl)⟩
        case measure => simp [intOf]; omega
    · go_wp2_with fail
      go_ret
      refine ⟨ret_bool ?_, m, rfl⟩
      have h3 := HB.out
      rw [List.take_of_length_le (by omega)] at h3
      exact h3.symm
end Go.Proofs.Ytlekffhacmdnnaa
