/-
  The walks over codec.readLength, bytes.Clone, codec.readSum, glacierref1.ReadFour, codec.ReadBytes and glacierref1.ReadBytes.
-/
import Derived.Test.YtjhafhfneedmjaaDoorLawW
import Derived.Test.YtjhafhfneedmjaaDoorRead
namespace Go.Proofs.YtjhafhfneedmjaaDoor
open Go.RowKit

theorem ret3l {a b c : Nat} {r : Nat × Nat × Nat} (h : r = (a, b, c)) :
    Ending.returned (.tuple #[.int .i64 (a : Int), .int .i64 (b : Int), .int .i64 (c : Int)]) = .returned (.tuple #[.int .i64 (r.1 : Int), .int .i64 (r.2.1 : Int), .int .i64 (r.2.2 : Int)]) := by rw [h]

set_option maxRecDepth 100000 in
set_option maxHeartbeats 400000 in
theorem readLength_any (v : Value) (l : List UInt8) (most extra B : Nat) (w : World) (h : Rd w B v l) (hm : most ≤ 9223372036854775807) (hx : extra ≤ 4) :
    Calls Tryd.prog 34 #[v, .int .i64 (most : Int), .int .i64 (extra : Int)] w fun e w' =>
      e = .returned (.tuple #[.int .i64 ((rdLen l most extra).1 : Int), .int .i64 ((rdLen l most extra).2.1 : Int), .int .i64 ((rdLen l most extra).2.2 : Int)]) ∧ w = w' := by
  have HR := Lib.hid h
  obtain ⟨p, cap, rfl, hlc, hl47, hcm, hat⟩ := h.form
  clear h hat
  go_enter Tryd.func34, Tryd.ntmps34
  go_wp2_with fail
  refine (readNumber_any _ l B w HR.out).mono ?_
  rintro e w1 ⟨rfl, rfl⟩
  rcases rdNum_form l with ⟨n, k, hr, h1, h2, h3, h4⟩ | hr | hr
  · rw [hr]
    have HN := Lib.hid h4
    have e0 : ((0 : Int) != 0) = false := rfl
    by_cases hv : most < n
    · have HE := Lib.hid (rdLen_long l most extra n k hr hv)
      clear hr h4
      have d1 : decide ((most : Int) < (n : Int)) = true := by simp; omega
      go_wp2_with fail
      go_ret3
      exact ⟨ret3l HE.out, rfl⟩
    · have d1 : decide ((most : Int) < (n : Int)) = false := by simp; omega
      by_cases hl : n + k + extra ≤ l.length
      · have HE := Lib.hid (rdLen_ok l most extra n k hr hv hl)
        clear hr h4
        have d2 : decide ((n : Int) ≤ (l.length : Int) - (k : Int) - (extra : Int)) = true := by simp; omega
        go_wp2_with fail
        go_ret3
        exact ⟨ret3l HE.out, rfl⟩
      · have HE := Lib.hid (rdLen_short l most extra n k hr hv hl)
        clear hr h4
        have d2 : decide ((n : Int) ≤ (l.length : Int) - (k : Int) - (extra : Int)) = false := by simp; omega
        go_wp2_with fail
        go_ret3
        exact ⟨ret3l HE.out, rfl⟩
  · rw [hr]
    have HE := Lib.hid (rdLen_err l most extra 11 hr (by decide))
    clear hr
    go_wp2_with fail
    go_ret3
    exact ⟨ret3l HE.out, rfl⟩
  · rw [hr]
    have HE := Lib.hid (rdLen_err l most extra 12 hr (by decide))
    clear hr
    go_wp2_with fail
    go_ret3
    exact ⟨ret3l HE.out, rfl⟩

theorem own_new0' (w : World) : Own (w.alloc (.cells #[] 5)) w.heap.size (.slice (some ⟨w.heap.size, 0, none⟩) 0 0) [] :=
  Own.of (n := 0) (xs := []) ⟨by simp, .inr ⟨w.heap.size, 0, #[], rfl, Nat.le_refl _, heap_alloc_new w _, Nat.le_refl _, by unfold maxLen; omega, by simp, by simp⟩⟩ rfl rfl

set_option maxHeartbeats 400000 in
theorem clone_any (v : Value) (l : List UInt8) (B : Nat) (w : World) (h : Rd w B v l) (hB : B ≤ w.heap.size) :
    Calls Tryd.prog 35 #[v] w fun e w' => ∃ v', e = .returned v' ∧ Rd w' w'.heap.size v' l ∧ (∀ k, v'.ownBlock = some k → w.heap.size ≤ k) ∧ Below w.heap.size w w' := by
  have HR := Lib.hid h
  obtain ⟨p, cap, rfl, hlc, ⟨hl47, hcm, hcn⟩, hat⟩ := h
  have q22 : ∀ (w : World) (a : Option Addr) (n c n' c' : Nat), (binOp .eql 28 (.slice a n c) (.slice none n' c')).run Tryd.prog w = .ok (.bool a.isNone) w := fun w a n c n' c' => Lib.run_eql_slice_nil w _ _ a n c n' c' Tryd.underlying28
  cases p with
  | none =>
    have hm : l = [] := by
      apply List.eq_nil_of_length_eq_zero
      rcases Nat.eq_zero_or_pos l.length with h0 | h0
      · exact h0
      · obtain ⟨b, off, e, _⟩ := hat h0
        cases e
    subst hm
    clear hat hcn
    go_enter Tryd.func35, Tryd.ntmps35
    go_wp2_with fail
    go_ret
    exact ⟨_, rfl, Rd.none_ _ _, (fun k hk => by cases hk), Below.refl _ _⟩
  | some ad =>
    clear hat hcn
    go_enter Tryd.func35, Tryd.ntmps35
    go_wp2_with (at_builtin; refine wpList_append_rd rfl _ _ rfl w.heap.size B _ _ [] l rfl (own_new0' w) rfl (HR.out.under (below_alloc w _) hB) (by simp; omega) (by simp) ?_; intro v1 w1 hown1 hb1)
    rw [List.nil_append] at hown1
    go_ret
    exact ⟨v1, rfl, hown1.rd (by omega), hown1.block, (below_alloc w _).trans hb1⟩

theorem or_add (a b k : Nat) (ha : a < 2 ^ k) (hab : a + b * 2 ^ k < 4294967296) : bits .or .u32 (a : Int) ((b : Int) * ((2 ^ k : Nat) : Int)) = ((a + b * 2 ^ k : Nat) : Int) := by
  rw [show (b : Int) * ((2 ^ k : Nat) : Int) = ((b * 2 ^ k : Nat) : Int) from by simp, u32_or_nat a (b * 2 ^ k) (by omega) (by omega)]
  congr 1
  rw [Nat.or_comm, Nat.mul_comm b, ← Nat.two_pow_add_eq_or_of_lt ha, Nat.add_comm]

set_option maxHeartbeats 400000 in
theorem readSum_any (v : Value) (l : List UInt8) (B : Nat) (w : World) (h : Rd w B v l) (hl : 4 ≤ l.length) :
    Calls Tryd.prog 36 #[v] w fun e w' => e = .returned (.int .u32 (unfour l : Int)) ∧ ∃ n, w.drewN n = w' := by
  obtain ⟨p, cap, rfl, hlc, ⟨hl47, hcm, hcn⟩, hat⟩ := h
  obtain ⟨b, off, rfl, hb, hc⟩ := hat (by omega)
  have hc0 := hc 0 (by omega)
  have hc1 := hc 1 (by omega)
  have hc2 := hc 2 (by omega)
  have hc3 := hc 3 (by omega)
  rw [Nat.add_zero] at hc0
  have HU : Hid (unfour l = (l.getD 0 0).toNat + (l.getD 1 0).toNat * 256 + (l.getD 2 0).toNat * 65536 + (l.getD 3 0).toNat * 16777216) := Lib.hid rfl
  clear hc hat
  have h0 : (l.getD 0 0).toNat < 256 := (l.getD 0 0).toNat_lt
  have h1 : (l.getD 1 0).toNat < 256 := (l.getD 1 0).toNat_lt
  have h2 : (l.getD 2 0).toNat < 256 := (l.getD 2 0).toNat_lt
  have h3 : (l.getD 3 0).toNat < 256 := (l.getD 3 0).toNat_lt
  generalize (l.getD 0 0).toNat = a at *
  generalize (l.getD 1 0).toNat = c at *
  generalize (l.getD 2 0).toNat = d at *
  generalize (l.getD 3 0).toNat = f at *
  generalize unfour l = U at *
  generalize l.length = len at *
  have o1 := or_add a c 8 (by omega) (by omega)
  have o2 := or_add (a + c * 2 ^ 8) d 16 (by omega) (by omega)
  have o3 := or_add (a + c * 2 ^ 8 + d * 2 ^ 16) f 24 (by omega) (by omega)
  have HO : Hid (bits .or .u32 (bits .or .u32 (bits .or .u32 (a : Int) ((c : Int) * 256)) ((d : Int) * 65536)) ((f : Int) * 16777216) = (U : Int)) := Lib.hid (by
    rw [show bits .or .u32 (a : Int) ((c : Int) * 256) = ((a + c * 2 ^ 8 : Nat) : Int) from o1, show bits .or .u32 ((a + c * 2 ^ 8 : Nat) : Int) ((d : Int) * 65536) = ((a + c * 2 ^ 8 + d * 2 ^ 16 : Nat) : Int) from o2,
      show bits .or .u32 ((a + c * 2 ^ 8 + d * 2 ^ 16 : Nat) : Int) ((f : Int) * 16777216) = ((a + c * 2 ^ 8 + d * 2 ^ 16 + f * 2 ^ 24 : Nat) : Int) from o3, HU.out])
  clear o1 o2 o3
  go_enter Tryd.func36, Tryd.ntmps36
  go_wp2
  go_quiet (fail)
  go_wp2
  go_ret
  exact ⟨ret_int HO.out, nq, rfl⟩

set_option maxHeartbeats 400000 in
theorem refReadFour_any (v : Value) (l : List UInt8) (B : Nat) (w : World) (h : Rd w B v l) (hl : 4 ≤ l.length) :
    Calls Tryd.prog 37 #[v] w fun e w' => e = .returned (.int .u32 (unfour l : Int)) ∧ ∃ n, w.drewN n = w' := by
  obtain ⟨p, cap, rfl, hlc, ⟨hl47, hcm, hcn⟩, hat⟩ := h
  obtain ⟨b, off, rfl, hb, hc⟩ := hat (by omega)
  have hc0 := hc 0 (by omega)
  have hc1 := hc 1 (by omega)
  have hc2 := hc 2 (by omega)
  have hc3 := hc 3 (by omega)
  rw [Nat.add_zero] at hc0
  have HU : Hid (unfour l = (l.getD 0 0).toNat + (l.getD 1 0).toNat * 256 + (l.getD 2 0).toNat * 65536 + (l.getD 3 0).toNat * 16777216) := Lib.hid rfl
  clear hc hat
  have h0 : (l.getD 0 0).toNat < 256 := (l.getD 0 0).toNat_lt
  have h1 : (l.getD 1 0).toNat < 256 := (l.getD 1 0).toNat_lt
  have h2 : (l.getD 2 0).toNat < 256 := (l.getD 2 0).toNat_lt
  have h3 : (l.getD 3 0).toNat < 256 := (l.getD 3 0).toNat_lt
  generalize (l.getD 0 0).toNat = a at *
  generalize (l.getD 1 0).toNat = c at *
  generalize (l.getD 2 0).toNat = d at *
  generalize (l.getD 3 0).toNat = f at *
  generalize unfour l = U at *
  generalize l.length = len at *
  have o1 := or_add a c 8 (by omega) (by omega)
  have o2 := or_add (a + c * 2 ^ 8) d 16 (by omega) (by omega)
  have o3 := or_add (a + c * 2 ^ 8 + d * 2 ^ 16) f 24 (by omega) (by omega)
  have HO : Hid (bits .or .u32 (bits .or .u32 (bits .or .u32 (a : Int) ((c : Int) * 256)) ((d : Int) * 65536)) ((f : Int) * 16777216) = (U : Int)) := Lib.hid (by
    rw [show bits .or .u32 (a : Int) ((c : Int) * 256) = ((a + c * 2 ^ 8 : Nat) : Int) from o1, show bits .or .u32 ((a + c * 2 ^ 8 : Nat) : Int) ((d : Int) * 65536) = ((a + c * 2 ^ 8 + d * 2 ^ 16 : Nat) : Int) from o2,
      show bits .or .u32 ((a + c * 2 ^ 8 + d * 2 ^ 16 : Nat) : Int) ((f : Int) * 16777216) = ((a + c * 2 ^ 8 + d * 2 ^ 16 + f * 2 ^ 24 : Nat) : Int) from o3, HU.out])
  clear o1 o2 o3
  go_enter Tryd.func37, Tryd.ntmps37
  go_wp2
  go_quiet (fail)
  go_wp2
  go_ret
  exact ⟨ret_int HO.out, nq, rfl⟩

theorem bytes_val {W : World} {B : Nat} {v : Value} {l : List UInt8} (h : Rd W B v l) : ∃ p cap, v = .slice p l.length cap := by
  obtain ⟨p, cap, rfl, _⟩ := h
  exact ⟨p, cap, rfl⟩
/-- What 'b[n:]' and 'b[i:j]' read as. -/
theorem Rd.cut {W : World} {B n m : Nat} {p : Option Addr} {cap : Nat} {l : List UInt8} (h : Rd W B (.slice p l.length cap) l) (hn : n + m ≤ l.length) :
    Rd W B (.slice (if cap = n then p else p.map (·.add n)) m (cap - n)) ((l.drop n).take m) := by
  obtain ⟨p', cap', e, h1, h2, h3⟩ := h
  injection e with e1 _ e2
  subst e1 e2
  have hl : ((l.drop n).take m).length = m := by rw [List.length_take, List.length_drop]; omega
  refine ⟨_, _, by rw [hl], by omega, ⟨by omega, by omega, fun hp => ?_⟩, fun h0 => ?_⟩
  · split at hp
    · omega
    · have : p = none := by
        cases p with
        | none => rfl
        | some a => cases hp
      have := h2.2.2 this
      omega
  · obtain ⟨b, off, ep, hb, hc⟩ := h3 (by omega)
    subst ep
    refine ⟨b, off + n, ?_, hb, fun i hi => ?_⟩
    · rw [if_neg (by omega)]
      simp [Addr.add_mid]
    · rw [show off + n + i = off + (n + i) from by omega, hc (n + i) (by omega)]
      have : ((l.drop n).take m).getD i 0 = l.getD (n + i) 0 := by
        simp only [List.getD_eq_getElem?_getD]
        rw [List.getElem?_take, if_pos (by omega), List.getElem?_drop]
      rw [this]

theorem sizeU8 (w : World) : (Go.sizeOf 5).run Tryd.prog w = .ok 1 w := by kernel_rfl
theorem elemBytes : Tryd.prog.elem 28 = 5 := by simp [Program.elem, Tryd.underlying28]
theorem underBytes : Tryd.prog.underlying 28 = some (.slice (Tryd.prog.elem 28)) := by rw [elemBytes]; exact Tryd.underlying28
theorem cut_run {W0 : World} {B n m : Nat} {p : Option Addr} {cap : Nat} {l : List UInt8} (h : Rd W0 B (.slice p l.length cap) l) (hn : n + m ≤ l.length) :
    ∃ p' cap', Rd W0 B (.slice p' m cap') ((l.drop n).take m) ∧
      ∀ W, (Instr.slice 28 (.slice p l.length cap) (some (.int .i64 (n : Int))) (some (.int .i64 ((n : Int) + (m : Int)))) none).run Tryd.prog W = .ok (.slice p' m cap') W := by
  have hr := h.cut hn
  obtain ⟨_, _, e, hlc, _, _⟩ := id h
  injection e with _ _ e2
  refine ⟨_, _, hr, fun W => ?_⟩
  rw [run_slice_lh W 28 _ _ _ underBytes .i64 .i64 _ _ (by omega) (by omega) (by omega), elemBytes, sizeU8]
  simp only [Result.andThen, sliced, Nat.mul_one]
  rw [show ((n : Int) + (m : Int)).toNat = n + m from by omega, show ((n : Int)).toNat = n from by omega, show n + m - n = m from by omega]
theorem tail_run {W0 : World} {B n : Nat} {p : Option Addr} {cap : Nat} {l : List UInt8} (h : Rd W0 B (.slice p l.length cap) l) (hn : n ≤ l.length) :
    ∃ p' cap', Rd W0 B (.slice p' (l.length - n) cap') (l.drop n) ∧
      ∀ W, (Instr.slice 28 (.slice p l.length cap) (some (.int .i64 (n : Int))) none none).run Tryd.prog W = .ok (.slice p' (l.length - n) cap') W := by
  have hr := h.cut (n := n) (m := l.length - n) (by omega)
  rw [List.take_of_length_le (by rw [List.length_drop]; omega)] at hr
  refine ⟨_, _, hr, fun W => ?_⟩
  rw [run_slice_l W 28 _ _ _ underBytes .i64 _ (by omega) (by omega), elemBytes, sizeU8]
  simp only [Result.andThen, sliced, Nat.mul_one]
  rw [show ((n : Int)).toNat = n from by omega]
end Go.Proofs.YtjhafhfneedmjaaDoor
