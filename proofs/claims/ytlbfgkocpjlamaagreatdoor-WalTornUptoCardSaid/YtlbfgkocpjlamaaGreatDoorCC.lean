import Derived.Test.YtlbfgkocpjlamaaGreatDoorCB
import Derived.Test.YtlbfgkocpjlamaaGreatDoorCA
import Derived.Deep.RegionWith

/-
  The walks over codec.readLength, bytes.Clone, codec.readSum, glacierref1.ReadFour, codec.ReadBytes and glacierref1.ReadBytes.
-/
namespace Go.Proofs.YtlbfgkocpjlamaaGreatDoor
open Go.RowKit

theorem ret3l {a b c : Nat} {r : Nat × Nat × Nat} (h : r = (a, b, c)) :
    Ending.returned (.tuple #[.int .i64 (a : Int), .int .i64 (b : Int), .int .i64 (c : Int)]) = .returned (.tuple #[.int .i64 (r.1 : Int), .int .i64 (r.2.1 : Int), .int .i64 (r.2.2 : Int)]) := by rw [h]

set_option maxRecDepth 100000 in
set_option maxHeartbeats 400000 in
theorem readLength_any (v : Value) (l : List UInt8) (most extra B : Nat) (w : World) (h : Rd w B v l) (hm : most ≤ 9223372036854775807) (hx : extra ≤ 4) :
    Calls Tryz.prog 76 #[v, .int .i64 (most : Int), .int .i64 (extra : Int)] w fun e w' =>
      e = .returned (.tuple #[.int .i64 ((rdLen l most extra).1 : Int), .int .i64 ((rdLen l most extra).2.1 : Int), .int .i64 ((rdLen l most extra).2.2 : Int)]) ∧ w = w' := by
  have HR := Lib.hid h
  obtain ⟨p, cap, rfl, hlc, hl47, hcm, hat⟩ := h.form
  clear h hat
  go_enter Tryz.func76, Tryz.ntmps76
  go_wp2_with fail
  refine (readNumber_any _ l B w HR.out).mono ?_
  rintro e w1 ⟨rfl, rfl⟩
  rcases rdNum_form l with ⟨n, k, hr, h1, h2, h3, h4⟩ | hr | hr
  · rw [hr]
    have HN := Lib.hid h4
    have e0 : ((0 : Int) != 0) = false := rfl
    by_cases hv : most < n
    · have HE := Lib.hid (rdLen_long l most extra n k hr hv)
      clear hr h4
      have d1 : decide ((most : Int) < (n : Int)) = true := by simp; omega
      go_wp2_with fail
      go_ret3
      exact ⟨ret3l HE.out, rfl⟩
    · have d1 : decide ((most : Int) < (n : Int)) = false := by simp; omega
      by_cases hl : n + k + extra ≤ l.length
      · have HE := Lib.hid (rdLen_ok l most extra n k hr hv hl)
        clear hr h4
        have d2 : decide ((n : Int) ≤ (l.length : Int) - (k : Int) - (extra : Int)) = true := by simp; omega
        go_wp2_with fail
        go_ret3
        exact ⟨ret3l HE.out, rfl⟩
      · have HE := Lib.hid (rdLen_short l most extra n k hr hv hl)
        clear hr h4
        have d2 : decide ((n : Int) ≤ (l.length : Int) - (k : Int) - (extra : Int)) = false := by simp; omega
        go_wp2_with fail
        go_ret3
        exact ⟨ret3l HE.out, rfl⟩
  · rw [hr]
    have HE := Lib.hid (rdLen_err l most extra 11 hr (by decide))
    clear hr
    go_wp2_with fail
    go_ret3
    exact ⟨ret3l HE.out, rfl⟩
  · rw [hr]
    have HE := Lib.hid (rdLen_err l most extra 12 hr (by decide))
    clear hr
    go_wp2_with fail
    go_ret3
    exact ⟨ret3l HE.out, rfl⟩

theorem own_new0' (w : World) : Own (w.alloc (.cells #[] 5)) w.heap.size (.slice (some ⟨w.heap.size, 0, none⟩) 0 0) [] :=
  Own.of (n := 0) (xs := []) ⟨by simp, .inr ⟨w.heap.size, 0, #[], rfl, Nat.le_refl _, heap_alloc_new w _, Nat.le_refl _, by unfold maxLen; omega, by simp, by simp⟩⟩ rfl rfl

set_option maxHeartbeats 400000 in
theorem clone_anyC (v : Value) (l : List UInt8) (B : Nat) (w : World) (h : Rd w B v l) (hB : B ≤ w.heap.size) :
    Calls Tryz.prog 32 #[v] w fun e w' => ∃ v', e = .returned v' ∧ Rd w' w'.heap.size v' l ∧ (∀ k, v'.ownBlock = some k → w.heap.size ≤ k) ∧ Below w.heap.size w w' := by
  have HR := Lib.hid h
  obtain ⟨p, cap, rfl, hlc, ⟨hl47, hcm, hcn⟩, hat⟩ := h
  have q22 : ∀ (w : World) (a : Option Addr) (n c n' c' : Nat), (binOp .eql 41 (.slice a n c) (.slice none n' c')).run Tryz.prog w = .ok (.bool a.isNone) w := fun w a n c n' c' => Lib.run_eql_slice_nil w _ _ a n c n' c' Tryz.underlying41
  cases p with
  | none =>
    have hm : l = [] := by
      apply List.eq_nil_of_length_eq_zero
      rcases Nat.eq_zero_or_pos l.length with h0 | h0
      · exact h0
      · obtain ⟨b, off, e, _⟩ := hat h0
        cases e
    subst hm
    clear hat hcn
    go_enter Tryz.func32, Tryz.ntmps32
    go_wp2_with fail
    go_ret
    exact ⟨_, rfl, Rd.none_ _ _, (fun k hk => by cases hk), Below.refl _ _⟩
  | some ad =>
    clear hat hcn
    go_enter Tryz.func32, Tryz.ntmps32
    go_wp2_with (at_builtin; refine wpList_append_rd rfl _ _ rfl w.heap.size B _ _ [] l rfl (own_new0' w) rfl (HR.out.under (below_alloc w _) hB) (by simp; omega) (by simp) ?_; intro v1 w1 hown1 hb1)
    rw [List.nil_append] at hown1
    go_ret
    exact ⟨v1, rfl, hown1.rd (by omega), hown1.block, (below_alloc w _).trans hb1⟩

theorem or_add (a b k : Nat) (ha : a < 2 ^ k) (hab : a + b * 2 ^ k < 4294967296) : bits .or .u32 (a : Int) ((b : Int) * ((2 ^ k : Nat) : Int)) = ((a + b * 2 ^ k : Nat) : Int) := by
  rw [show (b : Int) * ((2 ^ k : Nat) : Int) = ((b * 2 ^ k : Nat) : Int) from by simp, u32_or_nat a (b * 2 ^ k) (by omega) (by omega)]
  congr 1
  rw [Nat.or_comm, Nat.mul_comm b, ← Nat.two_pow_add_eq_or_of_lt ha, Nat.add_comm]

set_option maxHeartbeats 400000 in
theorem readSum_any (v : Value) (l : List UInt8) (B : Nat) (w : World) (h : Rd w B v l) (hl : 4 ≤ l.length) :
    Calls Tryz.prog 77 #[v] w fun e w' => e = .returned (.int .u32 (unfour l : Int)) ∧ ∃ n, w.drewN n = w' := by
  obtain ⟨p, cap, rfl, hlc, ⟨hl47, hcm, hcn⟩, hat⟩ := h
  obtain ⟨b, off, rfl, hb, hc⟩ := hat (by omega)
  have hc0 := hc 0 (by omega)
  have hc1 := hc 1 (by omega)
  have hc2 := hc 2 (by omega)
  have hc3 := hc 3 (by omega)
  rw [Nat.add_zero] at hc0
  have HU : Hid (unfour l = (l.getD 0 0).toNat + (l.getD 1 0).toNat * 256 + (l.getD 2 0).toNat * 65536 + (l.getD 3 0).toNat * 16777216) := Lib.hid rfl
  clear hc hat
  have h0 : (l.getD 0 0).toNat < 256 := (l.getD 0 0).toNat_lt
  have h1 : (l.getD 1 0).toNat < 256 := (l.getD 1 0).toNat_lt
  have h2 : (l.getD 2 0).toNat < 256 := (l.getD 2 0).toNat_lt
  have h3 : (l.getD 3 0).toNat < 256 := (l.getD 3 0).toNat_lt
  generalize (l.getD 0 0).toNat = a at *
  generalize (l.getD 1 0).toNat = c at *
  generalize (l.getD 2 0).toNat = d at *
  generalize (l.getD 3 0).toNat = f at *
  generalize unfour l = U at *
  generalize l.length = len at *
  have o1 := or_add a c 8 (by omega) (by omega)
  have o2 := or_add (a + c * 2 ^ 8) d 16 (by omega) (by omega)
  have o3 := or_add (a + c * 2 ^ 8 + d * 2 ^ 16) f 24 (by omega) (by omega)
  have HO : Hid (bits .or .u32 (bits .or .u32 (bits .or .u32 (a : Int) ((c : Int) * 256)) ((d : Int) * 65536)) ((f : Int) * 16777216) = (U : Int)) := Lib.hid (by
    rw [show bits .or .u32 (a : Int) ((c : Int) * 256) = ((a + c * 2 ^ 8 : Nat) : Int) from o1, show bits .or .u32 ((a + c * 2 ^ 8 : Nat) : Int) ((d : Int) * 65536) = ((a + c * 2 ^ 8 + d * 2 ^ 16 : Nat) : Int) from o2,
      show bits .or .u32 ((a + c * 2 ^ 8 + d * 2 ^ 16 : Nat) : Int) ((f : Int) * 16777216) = ((a + c * 2 ^ 8 + d * 2 ^ 16 + f * 2 ^ 24 : Nat) : Int) from o3, HU.out])
  clear o1 o2 o3
  go_enter Tryz.func77, Tryz.ntmps77
  go_wp2
  go_quiet (fail)
  go_wp2
  go_ret
  exact ⟨ret_int HO.out, nq, rfl⟩

theorem bytes_val {W : World} {B : Nat} {v : Value} {l : List UInt8} (h : Rd W B v l) : ∃ p cap, v = .slice p l.length cap := by
  obtain ⟨p, cap, rfl, _⟩ := h
  exact ⟨p, cap, rfl⟩
/-- What 'b[n:]' and 'b[i:j]' read as. -/
theorem Rd.cut {W : World} {B n m : Nat} {p : Option Addr} {cap : Nat} {l : List UInt8} (h : Rd W B (.slice p l.length cap) l) (hn : n + m ≤ l.length) :
    Rd W B (.slice (if cap = n then p else p.map (·.add n)) m (cap - n)) ((l.drop n).take m) := by
  obtain ⟨p', cap', e, h1, h2, h3⟩ := h
  injection e with e1 _ e2
  subst e1 e2
  have hl : ((l.drop n).take m).length = m := by rw [List.length_take, List.length_drop]; omega
  refine ⟨_, _, by rw [hl], by omega, ⟨by omega, by omega, fun hp => ?_⟩, fun h0 => ?_⟩
  · split at hp
    · omega
    · have : p = none := by
        cases p with
        | none => rfl
        | some a => cases hp
      have := h2.2.2 this
      omega
  · obtain ⟨b, off, ep, hb, hc⟩ := h3 (by omega)
    subst ep
    refine ⟨b, off + n, ?_, hb, fun i hi => ?_⟩
    · rw [if_neg (by omega)]
      simp [Addr.add_mid]
    · rw [show off + n + i = off + (n + i) from by omega, hc (n + i) (by omega)]
      have : ((l.drop n).take m).getD i 0 = l.getD (n + i) 0 := by
        simp only [List.getD_eq_getElem?_getD]
        rw [List.getElem?_take, if_pos (by omega), List.getElem?_drop]
      rw [this]

theorem sizeU8 (w : World) : (Go.sizeOf 5).run Tryz.prog w = .ok 1 w := by kernel_rfl
theorem elemBytes : Tryz.prog.elem 41 = 5 := by simp [Program.elem, Tryz.underlying41]
theorem underBytes : Tryz.prog.underlying 41 = some (.slice (Tryz.prog.elem 41)) := by rw [elemBytes]; exact Tryz.underlying41
theorem cut_run {W0 : World} {B n m : Nat} {p : Option Addr} {cap : Nat} {l : List UInt8} (h : Rd W0 B (.slice p l.length cap) l) (hn : n + m ≤ l.length) :
    ∃ p' cap', Rd W0 B (.slice p' m cap') ((l.drop n).take m) ∧
      ∀ W, (Instr.slice 41 (.slice p l.length cap) (some (.int .i64 (n : Int))) (some (.int .i64 ((n : Int) + (m : Int)))) none).run Tryz.prog W = .ok (.slice p' m cap') W := by
  have hr := h.cut hn
  obtain ⟨_, _, e, hlc, _, _⟩ := id h
  injection e with _ _ e2
  refine ⟨_, _, hr, fun W => ?_⟩
  rw [run_slice_lh W 41 _ _ _ underBytes .i64 .i64 _ _ (by omega) (by omega) (by omega), elemBytes, sizeU8]
  simp only [Result.andThen, sliced, Nat.mul_one]
  rw [show ((n : Int) + (m : Int)).toNat = n + m from by omega, show ((n : Int)).toNat = n from by omega, show n + m - n = m from by omega]
theorem tail_run {W0 : World} {B n : Nat} {p : Option Addr} {cap : Nat} {l : List UInt8} (h : Rd W0 B (.slice p l.length cap) l) (hn : n ≤ l.length) :
    ∃ p' cap', Rd W0 B (.slice p' (l.length - n) cap') (l.drop n) ∧
      ∀ W, (Instr.slice 41 (.slice p l.length cap) (some (.int .i64 (n : Int))) none none).run Tryz.prog W = .ok (.slice p' (l.length - n) cap') W := by
  have hr := h.cut (n := n) (m := l.length - n) (by omega)
  rw [List.take_of_length_le (by rw [List.length_drop]; omega)] at hr
  refine ⟨_, _, hr, fun W => ?_⟩
  rw [run_slice_l W 41 _ _ _ underBytes .i64 _ (by omega) (by omega), elemBytes, sizeU8]
  simp only [Result.andThen, sliced, Nat.mul_one]
  rw [show ((n : Int)).toNat = n from by omega]
end Go.Proofs.YtlbfgkocpjlamaaGreatDoor

/-
  The walks over codec.ReadBytes and glacierref1.ReadBytes.
-/
namespace Go.Proofs.YtlbfgkocpjlamaaGreatDoor
open Go.RowKit

theorem ret3b {v : Value} {N E : Int} {r : List UInt8 × Nat × Nat} {p : List UInt8} {n e : Nat} (h : r = (p, n, e)) (hN : N = (n : Int)) (hE : E = (e : Int)) :
    Ending.returned (.tuple #[v, .int .i64 N, .int .i64 E]) = .returned (.tuple #[v, .int .i64 (r.2.1 : Int), .int .i64 (r.2.2 : Int)]) := by rw [h, hN, hE]

end Go.Proofs.YtlbfgkocpjlamaaGreatDoor

/-
  The walks over codec.ReadFrame and glacierref1.ReadFrame.
-/
namespace Go.Proofs.YtlbfgkocpjlamaaGreatDoor
open Go.RowKit

theorem Rd.heap {w W : World} {B : Nat} {v : Value} {l : List UInt8} (h : Rd w B v l) (e : W.heap = w.heap) : Rd W B v l := h.keep fun _ _ _ => World.cell?_of_block (by rw [e])
theorem RdL.heap {w W : World} {B : Nat} {v : Value} {ls : List (List UInt8)} (h : RdL w B v ls) (e : W.heap = w.heap) : RdL W B v ls := h.keep fun _ _ _ => World.cell?_of_block (by rw [e])
theorem Tabs.heap {w W : World} (h : Tabs w) (e : W.heap = w.heap) : Tabs W := h.keep fun _ _ _ => World.cell?_of_block (by rw [e])
theorem below_heap {B : Nat} {w w1 W : World} (h : Below B w w1) (e : W.heap = w1.heap) (ho : W.os = w1.os) (ht : W.tape = w1.tape) (hp : W.output = w1.output) : Below B w W :=
  ⟨ho.trans h.os, ht.trans h.tape, hp.trans h.output, by rw [e]; exact h.size, fun k hk => by rw [e]; exact h.block k hk⟩

theorem q_same {P : Program} {f : FuncId} {args : Array Value} {w : World} {n : Nat} {v : Value}
    (h : Calls P f args (w.drewN n) fun e w' => e = .returned v ∧ w.drewN n = w') : Calls P f args (w.drewN n) fun e w'' => e = .returned v ∧ ∃ m, w'' = w.drewN m :=
  h.mono fun _ _ ⟨he, hm⟩ => ⟨he, n, hm.symm⟩
theorem q_drew {P : Program} {f : FuncId} {args : Array Value} {w : World} {n : Nat} {v : Value}
    (h : Calls P f args (w.drewN n) fun e w' => e = .returned v ∧ ∃ m, (w.drewN n).drewN m = w') : Calls P f args (w.drewN n) fun e w'' => e = .returned v ∧ ∃ m, w'' = w.drewN m :=
  h.mono fun _ _ ⟨he, m, hm⟩ => ⟨he, n + m, by rw [← hm, World.drewN_drewN]⟩

set_option maxRecDepth 100000 in
set_option maxHeartbeats 1000000 in
theorem readFrame_any (v : Value) (l : List UInt8) (B : Nat) (w : World) (h : Rd w B v l) (hB : B ≤ w.heap.size) (ht : Tabs w) :
    Calls Tryz.prog 61 #[v] w fun e w' =>
      ∃ v', e = .returned (.tuple #[v', .int .i64 ((rdFrame l).2.1 : Int), .int .i64 ((rdFrame l).2.2 : Int)]) ∧ Rd w' w'.heap.size v' (rdFrame l).1 ∧ (∀ k, v'.ownBlock = some k → w.heap.size ≤ k) ∧ Below w.heap.size w w' := by
  have HR := Lib.hid h
  have HT := Lib.hid ht
  obtain ⟨p, cap, rfl, hlc, hl47, hcm, hat⟩ := h.form
  clear h hat ht
  go_enter Tryz.func61, Tryz.ntmps61
  go_wp2_with fail
  refine (readLength_any _ l 67108864 4 B w HR.out (by omega) (by omega)).mono ?_
  rintro e w1 ⟨rfl, rfl⟩
  rcases rdLen_form l 67108864 4 with ⟨n, k, hr, hnum, hv, hl, h1, h2⟩ | ⟨e, hr, he⟩
  · rw [hr]
    obtain ⟨p2, cap2, hcut, hsl⟩ := cut_run (n := k + 4) (m := n) HR.out (by omega)
    obtain ⟨p3, cap3, htl, hsl3⟩ := tail_run (n := k) HR.out (by omega)
    have HC := Lib.hid hcut
    have HL := Lib.hid (RdL.one hcut hB 41)
    have HBl := Lib.hid (below_alloc w (.cells #[.slice p2 n cap2] 41))
    have HC1 := Lib.hid (hcut.under HBl.out hB)
    have HD1 := Lib.hid (htl.under HBl.out hB)
    have HT1 := Lib.hid (HT.out.under HBl.out HT.out.two)
    have HD := Lib.hid htl
    clear hnum hcut htl
    have e4 : ((k + 4 : Nat) : Int) = (k : Int) + 4 := by omega
    rw [e4] at hsl
    clear e4
    have h4d : 4 ≤ (l.drop k).length := by rw [List.length_drop]; omega
    have HS4 := Lib.hid h4d
    clear h4d
    by_cases hc : crc ((l.drop (k + 4)).take n) = unfour (l.drop k)
    · have HE := Lib.hid (rdFrame_ok l n k hr hc)
      have b1 : ((crc ((l.drop (k + 4)).take n) : Int) != (unfour (l.drop k) : Int)) = false := by simp [hc]
      clear hc hr
      go_wp2_with fail
      go_region_with (first
        | (go_at_call 46; refine (sum_any _ [(l.drop (k + 4)).take n] (w.heap.size + 1) _ (by exact HL.out.heap rfl) (by exact HT1.out.heap rfl)).mono ?_; rintro e w' ⟨rfl, m, rfl⟩)
        | (go_at_call 77; refine (readSum_any _ (l.drop k) B _ (by exact HD.out.heap rfl) HS4.out).mono ?_; rintro e w' ⟨rfl, m, rfl⟩)
        | (go_at_call 77; refine (readSum_any _ (l.drop k) B _ (by exact HD1.out.heap rfl) HS4.out).mono ?_; rintro e w' ⟨rfl, m, rfl⟩))
      go_wp2_with fail
      refine (clone_anyC _ _ B _ (by exact HC1.out.heap rfl) (by simp; omega)).mono ?_
      rintro e w2 ⟨v2, rfl, hrd2, hnew2, hb2⟩
      go_wp2_with fail
      go_ret3
      have hb3 := hb2.mono (B' := w.heap.size) (by simp)
      exact ⟨_, ret3b HE.out (by omega) rfl, by rw [HE.out]; exact hrd2, (fun k hk => by have := hnew2 k hk; simp at this; omega), Below.trans (by exact below_heap HBl.out rfl rfl rfl rfl) hb3⟩
    · have HE := Lib.hid (rdFrame_sum l n k hr hc)
      have b1 : ((crc ((l.drop (k + 4)).take n) : Int) != (unfour (l.drop k) : Int)) = true := by rw [bne_iff_ne]; omega
      clear hc hr
      go_wp2_with fail
      go_region_with (first
        | (go_at_call 46; refine (sum_any _ [(l.drop (k + 4)).take n] (w.heap.size + 1) _ (by exact HL.out.heap rfl) (by exact HT1.out.heap rfl)).mono ?_; rintro e w' ⟨rfl, m, rfl⟩)
        | (go_at_call 77; refine (readSum_any _ (l.drop k) B _ (by exact HD.out.heap rfl) HS4.out).mono ?_; rintro e w' ⟨rfl, m, rfl⟩)
        | (go_at_call 77; refine (readSum_any _ (l.drop k) B _ (by exact HD1.out.heap rfl) HS4.out).mono ?_; rintro e w' ⟨rfl, m, rfl⟩))
      go_wp2_with fail
      go_ret3
      exact ⟨_, ret3b HE.out rfl rfl, by rw [HE.out]; exact Rd.none_ _ _, (fun k hk => by cases hk), below_heap HBl.out rfl rfl rfl rfl⟩
  · rw [hr]
    have HE := Lib.hid (rdFrame_err l e hr (by omega))
    have e0 : ((e : Int) != 0) = true := by rw [bne_iff_ne]; omega
    clear hr he
    go_wp2_with fail
    go_ret3
    exact ⟨_, ret3b HE.out rfl rfl, by rw [HE.out]; exact Rd.none_ _ _, (fun k hk => by cases hk), Below.refl _ _⟩
end Go.Proofs.YtlbfgkocpjlamaaGreatDoor

/-
  The walks over codec.ReadFrames and glacierref1.ReadFrames: the frames behind one another, and the error behind them.
-/
namespace Go.Proofs.YtlbfgkocpjlamaaGreatDoor
open Go.RowKit

theorem infoBytes : (Tryz.prog.info? 41).map (fun i => (i.zero, i.size, i.bytes)) = some (some (.slice none 0 0), 1, 24) := by kernel_rfl

/-- A row of slices of the call's own; each element reads as its bytes, which lie in other blocks than the row. -/
def OwnL (w : World) (base : Nat) (v : Value) (ls : List (List UInt8)) : Prop :=
  ∃ vs : List Value, vs.length = ls.length ∧ w.ownsRow base 41 1 v vs.length vs ∧
    ∀ (k : Nat) (u : Value) (l : List UInt8), vs[k]? = some u → ls[k]? = some l → Rd w w.heap.size u l ∧ (0 < l.length → ∀ b, v.ownBlock = some b → u.ownBlock ≠ some b)
section
variable {w w' : World} {base : Nat} {v : Value} {ls : List (List UInt8)}
theorem OwnL.none_ (w : World) (base : Nat) : OwnL w base (.slice none 0 0) [] := ⟨[], rfl, World.ownsRow_nil w base 41 1, fun k u l h => by simp at h⟩
theorem OwnL.after (h : OwnL w base v ls) (hb : Below w.heap.size w w') : OwnL w' base v ls := by
  obtain ⟨vs, hl, hown, hel⟩ := h
  refine ⟨vs, hl, ⟨hown.1, ?_⟩, fun k u l hu hk => ?_⟩
  · rcases hown.2 with hn | ⟨g, cap, cur, e, h1, h2, h3⟩
    · exact .inl hn
    · have hlt : g < w.heap.size := by
        rcases Nat.lt_or_ge g w.heap.size with hlt | hge
        · exact hlt
        · rw [Array.getElem?_eq_none hge] at h2; cases h2
      exact .inr ⟨g, cap, cur, e, h1, (hb.block g hlt).trans h2, h3⟩
  · have := hel k u l hu hk
    exact ⟨(this.1.under hb (Nat.le_refl _)).more hb.size, this.2⟩
theorem rd_oneCell {B : Nat} {u : Value} {l : List UInt8} (h : Rd w B u l) : u.oneCell' = true := by
  obtain ⟨p, cap, rfl, _⟩ := h
  rfl
/-- Whatever only turns the row leaves an element's bytes alone. -/
theorem Rd.grown {B : Nat} {u : Value} {l : List UInt8} {row : Option Nat} (h : Rd w B u l) (hB : B ≤ w.heap.size) (hg : w.grownBy w' row) (hne : 0 < l.length → ∀ b, row = some b → u.ownBlock ≠ some b) : Rd w' B u l := by
  obtain ⟨p, cap, e, h1, h2, h3⟩ := h
  refine ⟨p, cap, e, h1, h2, fun h0 => ?_⟩
  obtain ⟨b, off, ep, hb, hc⟩ := h3 h0
  refine ⟨b, off, ep, hb, fun i hi => ?_⟩
  rw [← hc i hi]
  refine World.cell?_of_block (hg.block b (by omega) (fun e2 => hne h0 b e2.symm ?_))
  rw [e, ep]
  rfl
theorem OwnL.rdl (h : OwnL w base v ls) (hl : ls.length ≤ 140737488355328) : RdL w w.heap.size v ls := by
  obtain ⟨vs, hlen, hown, hel⟩ := h
  rcases hown.2 with ⟨rfl, h0⟩ | ⟨g, cap, cur, rfl, hb, hg, hn, hc, hsz, ht⟩
  · have : ls = [] := List.eq_nil_of_length_eq_zero (by omega)
    subst this
    exact RdL.none_ _ _
  · have hlt : g < w.heap.size := by
      rcases Nat.lt_or_ge g w.heap.size with hlt | hge
      · exact hlt
      · rw [Array.getElem?_eq_none hge] at hg; cases hg
    refine ⟨some ⟨g, 0, none⟩, cap, by rw [hlen], by omega, hl, hc, fun k l hk => ?_⟩
    have hkl : k < ls.length := (List.getElem?_eq_some_iff.1 hk).1
    have hv : vs[k]? = some vs[k] := List.getElem?_eq_getElem (by omega)
    refine ⟨g, 0, vs[k], rfl, hlt, ?_, (hel k _ l hv hk).1⟩
    rw [Nat.zero_add, cell_of_row _ _ _ _ _ _ hg]
    have h1 : cur.toList[k]? = some vs[k] := by
      rw [← hv]
      conv => rhs; rw [← ht]
      rw [List.getElem?_take, if_pos (by omega)]
    simpa using h1
end

theorem fresh_ne {w : World} {base : Nat} {v u : Value} {ls : List (List UInt8)} (h : OwnL w base v ls) (hu : ∀ k, u.ownBlock = some k → w.heap.size ≤ k) (n : Nat) : 0 < n → ∀ b, v.ownBlock = some b → u.ownBlock ≠ some b := by
  intro _ b hb hb2
  have h1 := hu b hb2
  obtain ⟨vs, _, hrow, _⟩ := h
  have h2 := (World.ownsRow.lt hrow b hb).2
  omega
theorem old_ne {w : World} {base B : Nat} {v u : Value} {ls : List (List UInt8)} {l : List UInt8} (h : OwnL w base v ls) (hu : Rd w B u l) (hB : B ≤ base) : 0 < l.length → ∀ b, v.ownBlock = some b → u.ownBlock ≠ some b := by
  intro h0 b hb hb2
  obtain ⟨vs, _, hrow, _⟩ := h
  have h2 := (World.ownsRow.lt hrow b hb).1
  obtain ⟨p, cap, rfl, _, _, hc⟩ := hu
  obtain ⟨b2, off, rfl, hlt, _⟩ := hc h0
  injection hb2 with hb2
  have hb3 : b2 = b := hb2
  omega
theorem wpList_append_one {w : World} {ops : Array Oper} {rest : List Oper} {o : Oper} {a : Act} {Q : Exit → Act → World → Prop} (hgd : o.guard = none) (s x : Operand)
    (ho : o.op = .call { callee := .builtin .append, args := #[s, x], argTypes := #[31, 31] })
    (base g : Nat) (v u : Value) (l : List UInt8) (ls : List (List UInt8)) (hs : a.eval s = v) (hown : OwnL w base v ls) (hx : a.eval x = .slice (some ⟨g, 0, none⟩) 1 1) (hc : w.cell? ⟨g, 0, none⟩ = some u)
    (hu : Rd w w.heap.size u l) (hne : 0 < l.length → ∀ b, v.ownBlock = some b → u.ownBlock ≠ some b)
    (hlen : (ls.length + 1) * 24 ≤ 140737488355328) (hbase : base ≤ w.heap.size)
    (h : ∀ v' w', OwnL w' base v' (ls ++ [l]) → Below base w w' → wpList Tryz.prog ops Q rest (a.put o.dst v') w') : wpList Tryz.prog ops Q (o :: rest) a w := by
  obtain ⟨i0, hi, hz0, hz1, hz2⟩ := info_parts infoBytes
  obtain ⟨vs, hl, hrow, hel⟩ := hown
  refine wpList_append_own_at w hgd s x _ ho base 41 i0 (.slice none 0 0) 1 24 Tryz.underlying31 hi hz0 hz1 hz2 rfl (by decide) v _ vs hs hrow ⟨g, 0, none⟩ 1 1 [u] hx rfl ?_ (by intro y hy; simp at hy; subst hy; exact rd_oneCell hu) (by unfold maxLen; omega) (by rw [hl]; omega) hbase ?_
  · intro j y hy
    obtain rfl : j = 0 := by
      have := (List.getElem?_eq_some_iff.1 hy).1
      simp at this
      omega
    obtain rfl : u = y := by simpa using hy
    rw [Addr.add_mid]
    exact hc
  · intro v' w' hown' hg _ hat
    refine h v' w' ⟨vs ++ [u], by simp [hl], by simpa using hown', fun k y m hy hm => ?_⟩ ((Below.refl _ _).grown hg hbase (fun k hk => (World.ownsRow.lt hrow k hk).1))
    have key : ∀ (y : Value) (m : List UInt8), Rd w w.heap.size y m → (0 < m.length → ∀ b, v.ownBlock = some b → y.ownBlock ≠ some b) → Rd w' w'.heap.size y m ∧ (0 < m.length → ∀ b, v'.ownBlock = some b → y.ownBlock ≠ some b) := by
      intro y m hr hn
      refine ⟨(hr.grown (Nat.le_refl _) hg hn).more hg.size, fun h0 b hb hyb => ?_⟩
      rcases hat with e | e
      · exact hn h0 b (e ▸ hb) hyb
      · rw [e] at hb
        injection hb with hb
        obtain ⟨p, cap, rfl, _, _, hcells⟩ := hr
        obtain ⟨b2, off, rfl, hlt, _⟩ := hcells h0
        injection hyb with hyb
        have hyb2 : b2 = b := hyb
        omega
    rcases Nat.lt_or_ge k vs.length with hk | hk
    · rw [List.getElem?_append_left hk] at hy
      rw [List.getElem?_append_left (by omega)] at hm
      have := hel k y m hy hm
      exact key y m this.1 this.2
    · have hkl : k < (vs ++ [u]).length := (List.getElem?_eq_some_iff.1 hy).1
      obtain rfl : k = vs.length := by simp at hkl; omega
      obtain rfl : u = y := by simpa using hy
      obtain rfl : l = m := by
        rw [hl] at hm
        simpa using hm
      exact key u l hu hne

theorem ret3s {v : Value} {N E : Int} {r : List (List UInt8) × Nat × Nat} {p : List (List UInt8)} {n e : Nat} (h : r = (p, n, e)) (hN : N = (n : Int)) (hE : E = (e : Int)) :
    Ending.returned (.tuple #[v, .int .i64 N, .int .i64 E]) = .returned (.tuple #[v, .int .i64 (r.2.1 : Int), .int .i64 (r.2.2 : Int)]) := by rw [h, hN, hE]

set_option maxRecDepth 100000 in
set_option maxHeartbeats 1000000 in
theorem readFrames_any (v : Value) (l : List UInt8) (B : Nat) (w : World) (h : Rd w B v l) (hB : B ≤ w.heap.size) (ht : Tabs w) (hl40 : l.length ≤ 1000000000000) :
    Calls Tryz.prog 39 #[v] w fun e w' =>
      ∃ v', e = .returned (.tuple #[v', .int .i64 ((rdFrames l).2.1 : Int), .int .i64 ((rdFrames l).2.2 : Int)]) ∧ RdL w' w'.heap.size v' (rdFrames l).1 ∧ Below w.heap.size w w' := by
  have HR := Lib.hid h
  have HT := Lib.hid ht
  clear ht
  obtain ⟨p, cap, rfl, hlc, hl47, hcm, hat⟩ := h.form
  clear h hat
  go_enter Tryz.func39, Tryz.ntmps39
  go_wp2
  go_loopw [5, 6] (fun t i wr => ∃ (k : Nat) (ps : List (List UInt8)), i = .int .i64 (k : Int) ∧ k ≤ l.length ∧ ps.length ≤ k ∧ OwnL wr w.heap.size t ps ∧ Below w.heap.size w wr ∧
    rdFrames l = (ps ++ (rdFrames (l.drop k)).1, k + (rdFrames (l.drop k)).2.1, (rdFrames (l.drop k)).2.2)) (fun _ i _ => l.length - (intOf i).toNat)
  case atStart => exact ⟨0, [], rfl, by omega, by simp, OwnL.none_ _ _, Below.refl _ _, by simp⟩
  case round =>
    obtain ⟨k, ps, rfl, hk, hpk, hown, hbw, hrd⟩ := hrel
    have hsz := hbw.size
    have HO := Lib.hid hown
    have HB := Lib.hid hbw
    have HD := Lib.hid hrd
    clear hown hbw hrd
    by_cases hlt : k < l.length
    · obtain ⟨p3, cap3, htl, hsl3⟩ := tail_run (n := k) HR.out (by omega)
      have hdl : (l.drop k).length = l.length - k := List.length_drop
      have hne0 : l.drop k ≠ [] := by
        intro e
        rw [e] at hdl
        simp at hdl
        omega
      have HNE := Lib.hid hne0
      have HTl := Lib.hid (htl.under HB.out hB)
      have HDL := Lib.hid hdl
      clear htl hdl hne0
      go_wp2_with fail
      refine (readFrame_any _ (l.drop k) B _ (by exact HTl.out) (by omega) (HT.out.under HB.out HT.out.two)).mono ?_
      rcases rdFrame_form (l.drop k) with ⟨q, n, hr, h5, hn, hq, hq2⟩ | ⟨e, hr, he⟩
      · rw [HDL.out] at hn
        rintro e WX ⟨vx, rfl, hrx, hnew, hbx⟩
        have HO1 := Lib.hid (HO.out.after hbx)
        have HBX := Lib.hid (HB.out.trans (hbx.mono hsz))
        have HX := Lib.hid (show Rd (WX.alloc (.cells #[vx] 41)) (WX.alloc (.cells #[vx] 41)).heap.size vx q by
          rw [hr] at hrx
          exact (hrx.under (below_alloc WX _) (Nat.le_refl _)).more (by simp))
        have HNX := Lib.hid (fresh_ne HO.out hnew q.length)
        have hvx : ∃ p cap, vx = .slice p q.length cap := by
          rw [hr] at hrx
          exact bytes_val hrx
        obtain ⟨px, cx, rfl⟩ := hvx
        clear hrx hnew hbx
        rw [hr]
        have HS := Lib.hid (show rdFrames l = (ps ++ [q] ++ (rdFrames (l.drop (k + n))).1, k + n + (rdFrames (l.drop (k + n))).2.1, (rdFrames (l.drop (k + n))).2.2) by
          rw [HD.out, rdFrames_ok _ q n HNE.out hr (by omega), List.drop_drop]
          simp [Nat.add_assoc])
        clear hr
        go_wp2_with (at_builtin; refine wpList_append_one rfl _ _ rfl w.heap.size WX.heap.size _ (.slice px q.length cx) q ps rfl (HO1.out.after (below_alloc _ _)) rfl (by rw [cell_of_row _ _ _ _ _ _ (heap_alloc_new WX (.cells #[.slice px q.length cx] 41))]; rfl) (HX.out) HNX.out (by omega) (by have := HBX.out.size; simp; omega) ?_; intro v4 w4 hown4 hb4)
        have HB4 := Lib.hid (HBX.out.trans (((below_alloc WX _).mono HBX.out.size).trans hb4))
        have HO4 := Lib.hid hown4
        clear hown4 hb4
        go_roundw
        case rel => exact ⟨k + n, ps ++ [q], by go_num, by omega, by simp; omega, HO4.out, HB4.out, HS.out⟩
        case measure => simp [intOf]; omega
      · rintro e WX ⟨vx, rfl, hrx, hnew, hbx⟩
        have HFIN := Lib.hid (HO.out.after hbx)
        have HBF := Lib.hid (HB.out.trans (hbx.mono hsz))
        clear hrx hnew hbx
        rw [hr]
        have HE := Lib.hid (show rdFrames l = (ps, k, e) by rw [HD.out, rdFrames_err _ e HNE.out hr (by omega)]; simp)
        have e0 : ((e : Int) != 0) = true := by rw [bne_iff_ne]; omega
        clear hr he
        go_wp2_with fail
        go_ret3
        exact ⟨_, ret3s HE.out rfl rfl, by rw [HE.out]; exact HFIN.out.rdl (by omega), HBF.out⟩
    · obtain rfl : k = l.length := by omega
      have HE := Lib.hid (show rdFrames l = (ps, l.length, 0) by rw [HD.out, List.drop_length, rdFrames_nil]; simp)
      go_wp2_with fail
      go_ret3
      exact ⟨_, ret3s HE.out rfl rfl, by rw [HE.out]; exact HO.out.rdl (by omega), HB.out⟩

end Go.Proofs.YtlbfgkocpjlamaaGreatDoor
