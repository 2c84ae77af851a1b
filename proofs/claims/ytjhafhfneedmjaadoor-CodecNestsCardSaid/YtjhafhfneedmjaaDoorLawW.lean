/-
  The walks over the small functions of glacierlaw1: Same, total, joined; bytes.Clone; and known: the chapter's examples hold.
-/
import Derived.Test.YtjhafhfneedmjaaDoorFrW
import Derived.Test.YtjhafhfneedmjaaDoorRnW
import Derived.Laws.IdiomStrings
import Derived.Lib.SlBytesConst
namespace Go.Proofs.YtjhafhfneedmjaaDoor
open Go.RowKit

theorem convert_rd {w : World} {B : Nat} {v : Value} {l : List UInt8} (h : Rd w B v l) : (Go.convert 28 9 v).run Tryd.prog w = .ok (.string ⟨l.toArray⟩) w := by
  obtain ⟨p, cap, rfl, hlc, hl47, hat⟩ := h
  rcases Nat.eq_zero_or_pos l.length with h0 | h0
  · have : l = [] := List.eq_nil_of_length_eq_zero h0
    subst this
    cases p with
    | none => exact run_convert_bytes_nil w 28 5 Tryd.underlying28 Tryd.underlying5 _ _ _ Tryd.underlying9
    | some ad => exact run_convert_bytes_back w 28 9 5 ad cap [] Tryd.underlying28 Tryd.underlying5 Tryd.underlying9 (fun j hj => by simp at hj)
  · obtain ⟨b, off, rfl, hb, hc⟩ := hat h0
    refine run_convert_bytes_back w 28 9 5 ⟨b, off, none⟩ cap l Tryd.underlying28 Tryd.underlying5 Tryd.underlying9 (fun j hj => ?_)
    rw [Addr.add_mid, hc j hj]
    simp [hj]

set_option maxHeartbeats 400000 in
theorem same_any (v1 v2 : Value) (a b : List UInt8) (B1 B2 : Nat) (r : Bool) (w : World) (h1 : Rd w B1 v1 a) (h2 : Rd w B2 v2 b) (hr : (a == b) = r) :
    Calls Tryd.prog 20 #[v1, v2] w fun e w' => e = .returned (.bool r) ∧ w = w' := by
  have hc1 := convert_rd h1
  have hc2 := convert_rd h2
  have HR := Lib.hid hr
  clear h1 h2 hr
  go_enter Tryd.func20, Tryd.ntmps20
  go_wp2
  go_ret
  exact ⟨ret_bool HR.out, rfl⟩

set_option maxHeartbeats 400000 in
theorem total_any (v : Value) (ls : List (List UInt8)) (B : Nat) (w : World) (h : RdL w B v ls) (hf : flen ls ≤ 140737488355328) :
    Calls Tryd.prog 12 #[v] w fun e w' => e = .returned (.int .i64 (flen ls : Int)) ∧ w = w' := by
  obtain ⟨p, cap, rfl, hlc, hl47, hcm, hat⟩ := h
  have HA := Lib.hid hat
  clear hat
  go_enter Tryd.func12, Tryd.ntmps12
  go_wp2
  go_loop [3, 4] (fun t i => ∃ k : Nat, k ≤ ls.length ∧ t = .int .i64 (flen (ls.take k) : Int) ∧ i = .int .i64 (k : Int)) (fun _ i => ls.length - (intOf i).toNat)
  case atStart => exact ⟨0, by omega, rfl, rfl⟩
  case round =>
    obtain ⟨k, hk, rfl, rfl⟩ := hrel
    by_cases hlt : k < ls.length
    · obtain ⟨b, off, u, rfl, hb, hc, hrd⟩ := HA.out k _ (List.getElem?_eq_getElem hlt)
      have hft := flen_take ls (k + 1)
      have hsn : flen (ls.take (k + 1)) = flen (ls.take k) + ls[k].length := by
        rw [take_snoc ls k _ (List.getElem?_eq_getElem hlt), flen_snoc]
      rw [hsn] at hft
      have HS := Lib.hid hsn
      clear hsn
      generalize ls[k] = l at *
      generalize flen (ls.take k) = R at *
      obtain ⟨p2, cap2, rfl, hlc2, hl472, hcm2, hat2⟩ := hrd.form
      clear hrd hat2
      go_wp2
      go_round
      case rel => exact ⟨k + 1, by omega, by rw [HS.out]; go_num, by go_num⟩
      case measure => simp [intOf]; omega
    · have HE := Lib.hid (show flen (ls.take k) = flen ls by rw [List.take_of_length_le (by omega)])
      generalize flen (ls.take k) = R at *
      go_wp2
      go_ret
      exact ⟨ret_nat HE.out, rfl⟩

theorem own_nil (w : World) (base : Nat) : Own w base (.slice none 0 0) [] := Own.of (World.ownsRow_nil w base 5 1) rfl rfl

set_option maxHeartbeats 400000 in
theorem joined_any (v : Value) (ls : List (List UInt8)) (B : Nat) (w : World) (h : RdL w B v ls) (hB : B ≤ w.heap.size) (hf : ls.flatten.length ≤ 140737488355000) :
    Calls Tryd.prog 15 #[v] w fun e w' => ∃ v', e = .returned v' ∧ Own w' w.heap.size v' ls.flatten ∧ Below w.heap.size w w' := by
  obtain ⟨p, cap, rfl, hlc, hl47, hcm, hat⟩ := h
  have HA := Lib.hid hat
  clear hat
  go_enter Tryd.func15, Tryd.ntmps15
  go_wp2
  go_loopw [3, 4] (fun t i wr => ∃ k : Nat, k ≤ ls.length ∧ i = .int .i64 (k : Int) ∧ Own wr w.heap.size t (ls.take k).flatten ∧ Below w.heap.size w wr) (fun _ i _ => ls.length - (intOf i).toNat)
  case atStart => exact ⟨0, by omega, rfl, own_nil _ _, Below.refl _ _⟩
  case round =>
    obtain ⟨k, hk, rfl, hown, hbw⟩ := hrel
    by_cases hlt : k < ls.length
    · obtain ⟨b, off, u, rfl, hb, hc, hrd⟩ := HA.out k _ (List.getElem?_eq_getElem hlt)
      have hc1 : wr.cell? ⟨b, off + k, none⟩ = some u := (below_cells hbw b _ (by omega)).trans hc
      have hrd1 : Rd wr B u ls[k] := hrd.under hbw hB
      have hft := flat_take ls (k + 1)
      have hsn : (ls.take (k + 1)).flatten = (ls.take k).flatten ++ ls[k] := by
        rw [take_snoc ls k _ (List.getElem?_eq_getElem hlt), flatten_snoc]
      rw [hsn, List.length_append] at hft
      have HS := Lib.hid hsn
      clear hsn hc hrd
      generalize ls[k] = l at *
      generalize (ls.take k).flatten = F at *
      have hsz := hbw.size
      have HR := Lib.hid hrd1
      obtain ⟨p2, cap2, rfl, hlc2, hl472, hcm2, hat2⟩ := hrd1.form
      clear hrd1 hat2
      go_wp2_with (at_builtin; refine wpList_append_rd rfl _ _ rfl w.heap.size B _ _ _ l rfl hown rfl HR.out (by omega) hsz ?_; intro v4 w4 hown4 hb4)
      go_roundw
      case rel => exact ⟨k + 1, by omega, by go_num, by rw [HS.out]; exact hown4, hbw.trans hb4⟩
      case measure => simp [intOf]; omega
    · rw [List.take_of_length_le (by omega)] at hown
      go_wp2_with fail
      go_ret
      exact ⟨_, rfl, hown, hbw⟩

theorem known_nums : rdNum [172, 2] = (300, 2, 0) := by decide +kernel
theorem known_sum : crc [49, 50, 51, 52, 53, 54, 55, 56, 57] = 3808858755 := by decide +kernel
theorem known_frame : (frame [97] == [1, 48, 67, 208, 193, 97]) = true := by
  unfold frame
  rw [num_lo _ (by decide)]
  decide +kernel

set_option maxHeartbeats 400000 in
theorem known_any (w : World) (ht : Tabs w) :
    Calls Tryd.prog 11 #[] w fun e w' => e = .returned (.bool true) ∧ Below w.heap.size w w' := by
  have HT := Lib.hid ht
  clear ht
  go_enter Tryd.func11, Tryd.ntmps11
  have kc := fun (w : World) (C : Array Value) (n c : Nat) => Lib.run_convert_bytes_const (P := Tryd.prog) w 28 5 C n c Tryd.underlying28 Tryd.underlying5
  go_wp2_with fail
  refine (readNumber_any _ [172, 2] (w.heap.size + 1) _ (Rd.new w [172, 2] _ _ (by simp [bs, bv]) (by simp))).mono ?_
  rintro e w1 ⟨rfl, rfl⟩
  rw [known_nums]
  have hb1 := below_alloc w (.cells #[.int .u8 172, .int .u8 2] 5)
  have HT1 := Lib.hid (HT.out.under hb1 HT.out.two)
  generalize hw1 : w.alloc (.cells #[.int .u8 172, .int .u8 2] 5) = w1 at *
  clear hw1
  go_wp2_with fail
  have hbm := below_alloc w1 (.cells #[.int .u8 97] 5 (1, 2))
  refine (frame_any _ [97] (w1.heap.size + 1) _ (Rd.newm w1 [97] _ _ (1, 2) (by simp [bs, bv]) (by simp)) (by simp) (HT1.out.under hbm HT1.out.two) (by simp)).mono ?_
  rintro e w2 ⟨v2, rfl, hown2, hb2⟩
  have hb12 : Below w1.heap.size w1 w2 := hbm.trans (hb2.mono (by simp))
  have hbw2 : Below w.heap.size w w2 := hb1.trans (hb12.mono hb1.size)
  have HT2 := Lib.hid (HT1.out.under hb12 HT1.out.two)
  have HO2 := Lib.hid (hown2.more (base' := w.heap.size) (by have := hb1.size; simp; omega))
  clear hown2 hb1 hbm hb2 hb12
  go_wp2_with fail
  have hbm := below_alloc w2 (.cells #[.int .u8 49, .int .u8 50, .int .u8 51, .int .u8 52, .int .u8 53, .int .u8 54, .int .u8 55, .int .u8 56, .int .u8 57] 5 (9, 10))
  have hrd := Rd.newm w2 [49, 50, 51, 52, 53, 54, 55, 56, 57] 5 #[.int .u8 49, .int .u8 50, .int .u8 51, .int .u8 52, .int .u8 53, .int .u8 54, .int .u8 55, .int .u8 56, .int .u8 57] (9, 10) (by simp [bs, bv]) (by simp)
  have HT3 := Lib.hid (HT2.out.under hbm HT2.out.two)
  have HO3 := Lib.hid (HO2.out.after hbm)
  have hone := RdL.one hrd (by simp) 28
  simp only [World.size_alloc] at hone
  have hbn := below_alloc (w2.alloc (.cells #[.int .u8 49, .int .u8 50, .int .u8 51, .int .u8 52, .int .u8 53, .int .u8 54, .int .u8 55, .int .u8 56, .int .u8 57] 5 (9, 10))) (.cells #[.slice (some ⟨w2.heap.size, 0, none⟩) 9 9] 28)
  have HT4 := Lib.hid (HT3.out.under hbn HT3.out.two)
  have HO4 := Lib.hid (HO3.out.after hbn)
  have hbw4 : Below w.heap.size w _ := hbw2.trans ((hbm.mono hbw2.size).trans (hbn.mono (Nat.le_trans hbw2.size hbm.size)))
  refine (sum_any _ [[49, 50, 51, 52, 53, 54, 55, 56, 57]] (w2.heap.size + 1 + 1) _ hone HT4.out).mono ?_
  rintro e w5 ⟨rfl, n, rfl⟩
  have hlen : (frame [97]).length = 6 := by rw [eq_of_beq known_frame]; rfl
  have hcv := fun m : Nat => convert_rd ((HO4.out.rd (by rw [hlen]; decide)).drewN m)
  have hcv2 := hcv n
  clear hcv hone hrd hbm hbn hlen
  have hks : crc [[49, 50, 51, 52, 53, 54, 55, 56, 57]].flatten = 3808858755 := by
    rw [show ([[49, 50, 51, 52, 53, 54, 55, 56, 57]] : List (List UInt8)).flatten = [49, 50, 51, 52, 53, 54, 55, 56, 57] from rfl, known_sum]
  rw [hks]
  have hkf := known_frame
  have HB := Lib.hid (below_drewN hbw4 n)
  clear hks hbw4 hbw2
  go_wp2_with fail
  go_ret
  exact ⟨rfl, HB.out⟩
end Go.Proofs.YtjhafhfneedmjaaDoor
