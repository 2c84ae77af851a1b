/-
  The walks over codec.appendSum, codec.Frames, codec.Frame and their like in glacierref1.
-/
import Derived.Test.YtjhafhfneedmjaaDoorFrame
import Derived.Test.YtjhafhfneedmjaaDoorSumW
import Derived.Test.YtjhafhfneedmjaaDoorNumW
namespace Go.Proofs.YtjhafhfneedmjaaDoor
open Go.RowKit

theorem Own.drewN {w : World} {base : Nat} {v : Value} {l : List UInt8} (h : Own w base v l) (n : Nat) : Own (w.drewN n) base v l := h
theorem RdL.one {w : World} {B : Nat} {u : Value} {l : List UInt8} (h : Rd w B u l) (hB : B ≤ w.heap.size) (t : TypeId) :
    RdL (w.alloc (.cells #[u] t)) (w.heap.size + 1) (.slice (some ⟨w.heap.size, 0, none⟩) 1 1) [l] := by
  refine ⟨_, _, rfl, by simp, by simp, by omega, fun k l' hl => ?_⟩
  obtain rfl : k = 0 := by
    have := (List.getElem?_eq_some_iff.1 hl).1
    simp at this
    omega
  obtain rfl : l = l' := by simpa using hl
  refine ⟨_, _, u, rfl, by omega, ?_, (h.under ((Below.refl w.heap.size w).alloc (Nat.le_refl _) _) hB).more (by omega)⟩
  rw [Nat.zero_add, cell_of_row _ _ _ _ _ _ (heap_alloc_new w (.cells #[u] t))]
  rfl
theorem below_alloc (w : World) (o : Obj) : Below w.heap.size w (w.alloc o) := (Below.refl _ _).alloc (Nat.le_refl _) o

theorem four_cells (s : Nat) (h : s < 4294967296) : #[Value.int .u8 ((s : Int) % 256), .int .u8 ((s : Int) / 256 % 256), .int .u8 ((s : Int) / 65536 % 256), .int .u8 ((s : Int) / 16777216)] = (bs (four s)).toArray := by
  have e0 : ((UInt8.ofNat (s % 256)).toNat : Int) = (s : Int) % 256 := by rw [toNat_of _ (by omega)]; omega
  have e1 : ((UInt8.ofNat (s / 256 % 256)).toNat : Int) = (s : Int) / 256 % 256 := by rw [toNat_of _ (by omega)]; omega
  have e2 : ((UInt8.ofNat (s / 65536 % 256)).toNat : Int) = (s : Int) / 65536 % 256 := by rw [toNat_of _ (by omega)]; omega
  have e3 : ((UInt8.ofNat (s / 16777216 % 256)).toNat : Int) = (s : Int) / 16777216 := by rw [toNat_of _ (by omega)]; omega
  unfold bs four bv
  simp only [List.map_cons, List.map_nil, e0, e1, e2, e3]

set_option maxHeartbeats 400000 in
theorem appendSum_any (v : Value) (l : List UInt8) (s base : Nat) (w : World) (hs : s < 4294967296) (hown : Own w base v l) (hbase : base ≤ w.heap.size) (hlen : l.length ≤ 140737488355300) :
    Calls Tryd.prog 41 #[v, .int .u32 (s : Int)] w fun e w' => ∃ v', e = .returned v' ∧ Own w' base v' (l ++ four s) ∧ Below base w w' := by
  go_enter Tryd.func41, Tryd.ntmps41
  go_wp2_with (at_builtin; refine wpList_append_rd rfl _ _ rfl base (w.heap.size + 1) _ _ _ (four s) rfl (hown.alloc _) rfl (Rd.new w (four s) _ _ (four_cells s hs) (by simp [four])) (by simp [four]; omega) (by simp; omega) ?_; intro v1 w1 hown2 hb2)
  go_ret
  exact ⟨v1, rfl, hown2, ((below_alloc w _).mono hbase).trans hb2⟩

set_option maxHeartbeats 400000 in
theorem refFour_any (v : Value) (l : List UInt8) (s base : Nat) (w : World) (hs : s < 4294967296) (hown : Own w base v l) (hbase : base ≤ w.heap.size) (hlen : l.length ≤ 140737488355300) :
    Calls Tryd.prog 40 #[v, .int .u32 (s : Int)] w fun e w' => ∃ v', e = .returned v' ∧ Own w' base v' (l ++ four s) ∧ Below base w w' := by
  go_enter Tryd.func40, Tryd.ntmps40
  go_wp2_with (at_builtin; refine wpList_append_rd rfl _ _ rfl base (w.heap.size + 1) _ _ _ (four s) rfl (hown.alloc _) rfl (Rd.new w (four s) _ _ (four_cells s hs) (by simp [four])) (by simp [four]; omega) (by simp; omega) ?_; intro v1 w1 hown2 hb2)
  go_ret
  exact ⟨v1, rfl, hown2, ((below_alloc w _).mono hbase).trans hb2⟩

set_option maxHeartbeats 400000 in
theorem frames_any (v : Value) (ls : List (List UInt8)) (B : Nat) (w : World) (h : RdL w B v ls) (hB : B ≤ w.heap.size) (ht : Tabs w) (hr : room ls ≤ 140737488355000) :
    Calls Tryd.prog 31 #[v] w fun e w' => ∃ v', e = .returned v' ∧ Own w' w.heap.size v' (frames ls) ∧ Below w.heap.size w w' := by
  obtain ⟨i0, hi, hz0, hz1, hz2⟩ := info_parts infoU8
  have hfr : ∀ k, (frames (ls.take k)).length ≤ 140737488355000 := fun k => by
    have h1 := frames_length (ls.take k) (by have h2 := room_take ls k; unfold room at h2 hr; omega)
    have h2 := room_take ls k
    omega
  have hel : ∀ (k : Nat) (l : List UInt8), ls[k]? = some l → l.length ≤ 140737488355000 := fun k l hl => by
    have h1 := flat_mem ls k l hl
    unfold room at hr
    omega
  obtain ⟨p, cap, rfl, hlc, hl47, hcm, hat⟩ := h
  have HA := Lib.hid hat
  have HT := Lib.hid ht
  have HF := Lib.hid hfr
  have HE := Lib.hid hel
  clear hat ht hfr hel
  go_enter Tryd.func31, Tryd.ntmps31
  go_wp2
  go_loop [3, 11] (fun t i => ∃ k : Nat, k ≤ ls.length ∧ t = .int .i64 (room (ls.take k) : Int) ∧ i = .int .i64 (k : Int)) (fun _ i => ls.length - (intOf i).toNat)
  case atStart => exact ⟨0, by omega, rfl, rfl⟩
  case round =>
    obtain ⟨k, hk, rfl, rfl⟩ := hrel
    have hrt := room_take ls k
    by_cases hlt : k < ls.length
    · obtain ⟨b, off, u, rfl, hb, hc, hrd⟩ := HA.out k _ (List.getElem?_eq_getElem hlt)
      have hrt2 := room_take ls (k + 1)
      have hsn : room (ls.take (k + 1)) = room (ls.take k) + (14 + ls[k].length) := by
        rw [take_snoc ls k _ (List.getElem?_eq_getElem hlt), room_snoc]
      rw [hsn] at hrt2
      have HS := Lib.hid hsn
      clear hsn
      generalize ls[k] = l at *
      generalize room (ls.take k) = R at *
      obtain ⟨p2, cap2, rfl, hlc2, hl472, hcm2, hat2⟩ := hrd.form
      clear hrd hat2
      go_wp2
      go_round
      case rel => exact ⟨k + 1, by omega, by rw [HS.out]; go_num, by go_num⟩
      case measure => simp [intOf]; omega
    · have e : room (ls.take k) = room ls := by rw [List.take_of_length_le (by omega)]
      rw [e] at *
      clear e hrt
      go_wp2_with (at_make; refine wpList_make_own _ rfl _ _ 28 rfl w.heap.size 5 i0 (.int .u8 0) 1 Tryd.underlying28 hi hz0 hz1 .i64 .i64 _ (room ls) rfl rfl (by omega) (by rw [hz2]; omega) (by unfold maxLen; omega) (Nat.le_refl _) ?_; intro w0 hown0 hg0)
      have hb0 : Below w.heap.size w w0 := (Below.refl w.heap.size w).grown hg0 (Nat.le_refl _) (fun k hk => by cases hk)
      have HO0 := Lib.hid (Own.of hown0 rfl rfl : Own w0 w.heap.size _ [])
      clear hown0 hg0 hi hz0 hz1 hz2
      go_loopw [6, 25] (fun t i wr => ∃ k : Nat, k ≤ ls.length ∧ i = .int .i64 (k : Int) ∧ Own wr w.heap.size t (frames (ls.take k)) ∧ Below w.heap.size w wr) (fun _ i _ => ls.length - (intOf i).toNat)
      case atStart => exact ⟨0, by omega, rfl, HO0.out, hb0⟩
      case round =>
        obtain ⟨k, hk, rfl, hown, hbw⟩ := hrel
        have hfk := HF.out k
        by_cases hlt : k < ls.length
        · obtain ⟨b, off, u, rfl, hb, hc, hrd⟩ := HA.out k _ (List.getElem?_eq_getElem hlt)
          have hc1 : wr.cell? ⟨b, off + k, none⟩ = some u := (below_cells hbw b _ (by omega)).trans hc
          have hrd1 : Rd wr B u ls[k] := hrd.under hbw hB
          have hl47b := HE.out k _ (List.getElem?_eq_getElem hlt)
          have hsn : frames (ls.take (k + 1)) = frames (ls.take k) ++ (num ls[k].length ++ (four (crc ls[k]) ++ ls[k])) := by
            rw [take_snoc ls k _ (List.getElem?_eq_getElem hlt), frames_snoc]
            rfl
          have hfk1 := HF.out (k + 1)
          rw [hsn] at hfk1
          simp only [List.length_append, four_length] at hfk1
          have HS := Lib.hid hsn
          clear hsn hc hrd
          generalize ls[k] = l at *
          generalize frames (ls.take k) = F at *
          have hsz := hbw.size
          have HR := Lib.hid hrd1
          obtain ⟨p2, cap2, rfl, hlc2, hl472, hcm2, hat2⟩ := hrd1.form
          clear hrd1 hat2
          go_wp2_with fail
          refine (appendNumber_any _ F l.length w.heap.size wr (by omega) hown hsz (by omega)).mono ?_
          rintro e w1 ⟨v1, rfl, hown1, hb1⟩
          have hnl := num_len10 l.length (by omega)
          have hsz1 := (hbw.trans hb1).size
          have HR1 : Hid (Rd w1 B _ l) := Lib.hid (HR.out.under hb1 hB)
          have HT1 : Hid (Tabs w1) := Lib.hid (HT.out.under (hbw.trans hb1) HT.out.two)
          go_wp2_with fail
          refine (sum_any _ [l] (w1.heap.size + 1) _ (RdL.one HR1.out (by omega) _) (HT1.out.under (below_alloc _ _) HT1.out.two)).mono ?_
          rintro e w2 ⟨rfl, n, rfl⟩
          rw [show [l].flatten = l from by simp]
          have hb2 : Below w.heap.size w1 ((w1.alloc (.cells #[.slice p2 l.length cap2] 28)).drewN n) := below_drewN ((below_alloc w1 _).mono hsz1) n
          have hsz2 := (hbw.trans (hb1.trans hb2)).size
          have hown2 : Own ((w1.alloc (.cells #[.slice p2 l.length cap2] 28)).drewN n) w.heap.size v1 (F ++ num l.length) := (hown1.alloc _).drewN n
          have HR2 : Hid (Rd ((w1.alloc (.cells #[.slice p2 l.length cap2] 28)).drewN n) B _ l) := Lib.hid (HR1.out.under hb2 hB)
          go_wp2_with fail
          refine (appendSum_any v1 _ (crc l) w.heap.size _ (crc_lt l) hown2 hsz2 (by simp; omega)).mono ?_
          rintro e w3 ⟨v3, rfl, hown3, hb3⟩
          have hsz3 := (hbw.trans (hb1.trans (hb2.trans hb3))).size
          have HR3 : Hid (Rd w3 B _ l) := Lib.hid (HR2.out.under hb3 hB)
          clear hown1 hown2 hown hb0
          go_wp2_with (at_builtin; refine wpList_append_rd rfl _ _ rfl w.heap.size B _ _ _ l rfl hown3 rfl HR3.out (by simp only [List.length_append, four_length]; omega) hsz3 ?_; intro v4 w4 hown4 hb4)
          go_roundw
          case rel => exact ⟨k + 1, by omega, by go_num, by rw [HS.out, ← List.append_assoc, ← List.append_assoc]; exact hown4, hbw.trans (hb1.trans (hb2.trans (hb3.trans hb4)))⟩
          case measure => simp [intOf]; omega
        · rw [List.take_of_length_le (by omega)] at hown
          go_wp2_with fail
          go_ret
          exact ⟨_, rfl, hown, hbw⟩

set_option maxHeartbeats 400000 in
theorem frame_any (v : Value) (l : List UInt8) (B : Nat) (w : World) (h : Rd w B v l) (hB : B ≤ w.heap.size) (ht : Tabs w) (hl : l.length ≤ 140737488354900) :
    Calls Tryd.prog 30 #[v] w fun e w' => ∃ v', e = .returned v' ∧ Own w' w.heap.size v' (frame l) ∧ Below w.heap.size w w' := by
  obtain ⟨p, cap, rfl, hlc, hl47, hcm, hat⟩ := h.form
  have HL := Lib.hid (RdL.one h hB 28)
  have HT := Lib.hid (ht.under (below_alloc w (.cells #[.slice p l.length cap] 28)) ht.two)
  clear h ht hat
  go_enter Tryd.func30, Tryd.ntmps30
  go_wp2_with fail
  refine (frames_any _ [l] (w.heap.size + 1) _ HL.out (by simp) HT.out (by simp [room]; omega)).mono ?_
  rintro e w1 ⟨v1, rfl, hown1, hb1⟩
  rw [frames_one] at hown1
  simp at hb1 hown1
  go_wp2_with fail
  go_ret
  exact ⟨v1, rfl, hown1.more (by omega), (below_alloc w _).trans (hb1.mono (by omega))⟩
end Go.Proofs.YtjhafhfneedmjaaDoor
