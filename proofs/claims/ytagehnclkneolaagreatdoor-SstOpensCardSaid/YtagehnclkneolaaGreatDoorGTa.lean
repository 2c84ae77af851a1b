import Derived.Test.YtagehnclkneolaaGreatDoorGSg
import Derived.Laws.ResultCell

/-
  The walks over sst.readLowFirst and sst.readFoot.
-/
namespace Go.Proofs.YtagehnclkneolaaGreatDoor
open Go.RowKit

theorem unlow_snoc : ∀ (l : List UInt8) (x : UInt8), unlow (l ++ [x]) = unlow l + x.toNat * 256 ^ l.length
  | [], x => by simp [unlow]
  | y :: r, x => by
    simp only [List.cons_append, unlow, unlow_snoc r x, List.length_cons, Nat.pow_succ, Nat.mul_add]
    rw [Nat.add_assoc]
    congr 2
    rw [Nat.mul_comm (256 ^ r.length), ← Nat.mul_assoc, ← Nat.mul_assoc, Nat.mul_comm 256]
theorem or_byte (X y k : Nat) (hX : X < 256 ^ k) (hk : k ≤ 7) (hy : y < 256) :
    bits .or .u64 (X : Int) (IntKind.u64.wrap ((y : Int) * 2 ^ (8 * k))) = ((X + y * 256 ^ k : Nat) : Int) := by
  have h256 : (256 : Nat) ^ k = 2 ^ (8 * k) := by rw [Nat.pow_mul]
  rw [h256] at hX ⊢
  have hs : y * 2 ^ (8 * k) < 18446744073709551616 := by
    have h1 : y * 2 ^ (8 * k) ≤ 255 * 2 ^ 56 := Nat.mul_le_mul (by omega) (Nat.pow_le_pow_right (by decide) (by omega))
    omega
  have hX2 : X < 18446744073709551616 := by
    have h1 : 2 ^ (8 * k) ≤ 2 ^ 56 := Nat.pow_le_pow_right (by decide) (by omega)
    omega
  have e : (y : Int) * 2 ^ (8 * k) = ((y * 2 ^ (8 * k) : Nat) : Int) := by simp
  have ew : IntKind.u64.wrap ((y * 2 ^ (8 * k) : Nat) : Int) = ((y * 2 ^ (8 * k) : Nat) : Int) := by rw [IntKind.wrap_u64]; omega
  rw [e, ew, u64_or_nat _ _ hX2 hs]
  congr 1
  rw [Nat.or_comm, Nat.mul_comm y, ← Nat.two_pow_add_eq_or_of_lt hX, Nat.add_comm]
theorem unlow_four (l : List UInt8) (h : l.length = 4) : unlow l = unfour l := by
  match l, h with
  | [a, b, c, d], _ => simp [unlow, unfour]; omega

set_option maxRecDepth 100000 in
set_option maxHeartbeats 1000000 in
theorem readLow_any (v : Value) (l : List UInt8) (B : Nat) (w : World) (h : Rd w B v l) (hl : l.length ≤ 8) :
    Calls Tryz.prog 99 #[v] w fun e w' => e = .returned (.int .u64 (unlow l : Int)) ∧ w = w' := by
  obtain ⟨p, cap, rfl, hlc, hl47, hcm, hat⟩ := h.form
  clear h
  have HA := Lib.hid hat
  clear hat
  go_enter Tryz.func99, Tryz.ntmps99
  go_wp2_with fail
  go_loop [3, 8] (fun t i => ∃ k : Nat, k ≤ l.length ∧ i = .int .i64 (k : Int) ∧ t = .int .u64 (unlow (l.take k) : Int)) (fun _ i => l.length - (intOf i).toNat)
  case atStart => exact ⟨0, by omega, rfl, rfl⟩
  case round =>
    obtain ⟨k, hk, rfl, rfl⟩ := hrel
    by_cases hlt : k < l.length
    · have d1 : decide ((k : Int) < (l.length : Int)) = true := decide_eq_true (by omega)
      obtain ⟨b, off, x, rfl, hb, hx, hc⟩ := HA.out k hlt
      have hx8 : x.toNat < 256 := x.toNat_lt
      have hul := unlow_lt (l.take k)
      rw [List.length_take, Nat.min_eq_left hk] at hul
      have HV := Lib.hid (or_byte (unlow (l.take k)) x.toNat k hul (by omega) hx8)
      have HSn : Hid (unlow (l.take (k + 1)) = unlow (l.take k) + x.toNat * 256 ^ k) := Lib.hid (by rw [take_snoc l k x hx, unlow_snoc, List.length_take, Nat.min_eq_left hk])
      have hw8 : IntKind.i64.wrap (8 * (k : Int)) = ((8 * k : Nat) : Int) := by rw [IntWalk.i64_in _ (by omega)]; omega
      generalize unlow (l.take k) = X at *
      clear hx hul
      go_wp2_with fail
      go_round
      case rel =>
        refine ⟨k + 1, by omega, by go_num, ?_⟩
        rw [HSn.out, ← HV.out]
      case measure => simp [intOf]; omega
    · obtain rfl : k = l.length := by omega
      rw [List.take_length]
      go_wp2_with fail
      go_ret
      exact ⟨rfl, rfl⟩
end Go.Proofs.YtagehnclkneolaaGreatDoor

/-
  The walk over sst.readFoot.
-/
namespace Go.Proofs.YtagehnclkneolaaGreatDoor
open Go.RowKit

def ftE (l : List UInt8) (at_ : Nat) : Nat := if crc (l.take 24) ≠ unfour (l.drop 24) then 13 else if fF l ≤ fI l ∨ at_ ≤ fF l then 14 else 0
def set3f (w : World) (g : Nat) (a b c : Value) : World := ((w.setCell ⟨g, 0, none⟩ a).setCell ⟨g, 1, none⟩ b).setCell ⟨g, 2, none⟩ c
theorem set3f_heap {w : World} {g : Nat} {a b c : Value} {t : TypeId} {fz : Nat × Nat} (h : w.heap[g]? = some (.cells #[a, b, c] t fz)) (x y z : Value) : (set3f w g x y z).heap[g]? = some (.cells #[x, y, z] t fz) := by
  have h1 := setCell_same (off := 0) h x
  have h2 := setCell_same (off := 1) h1 y
  have h3 := setCell_same (off := 2) h2 z
  simpa [set3f] using h3
theorem set3f_fr (w : World) (g : Nat) (x y z : Value) (S : Nat → Prop) (hS : S g) : Fr S w (set3f w g x y z) :=
  ((Fr.setCell S w (p := ⟨g, 0, none⟩) hS x).then (Fr.setCell S _ (p := ⟨g, 1, none⟩) hS y)).then (Fr.setCell S _ (p := ⟨g, 2, none⟩) hS z)
theorem footInfo (cs : Array Value) (hs : cs.size = 3) : (Tryz.prog.info? 136).map (·.size) = some cs.size := by rw [hs]; kernel_rfl
theorem results_foot {fn : Func} {p u : Tmp} (h : fn.results = #[.cell p 136, .tmp u]) (tmps : Array Value) (w : World) (g : Nat) (cs : Array Value) (b : Value) (hp : tmps.getD p undef = .pointer (some ⟨g, 0, none⟩)) (hb : tmps.getD u undef = b)
    (hg : w.heap[g]? = some (.cells cs 136 (0, 0))) (hs : cs.size = 3) : (results fn tmps).run Tryz.prog w = .ok (.tuple #[.agg cs, b]) w := by
  have hl := run_loadVar_row (P := Tryz.prog) w g _ 136 cs (0, 0) _ hg Tryz.underlying136 rfl (footInfo cs hs)
  rw [results_cell_tmp h, hp, hb]
  simp [asAddr, Result.andThen, hl]

set_option maxRecDepth 100000 in
set_option maxHeartbeats 1000000 in
theorem readFoot_any (w : World) (q : Option Addr) (c : Nat) (l : List UInt8) (B at_ : Nat) (h : Rd w B (.slice q 28 c) l) (hl : l.length = 28) (hB : B ≤ w.heap.size) (ht : Tabs w) (ha : at_ ≤ 1099511627776) :
    Calls Tryz.prog 77 #[.slice q 28 c, .int .i64 (at_ : Int)] w fun e w' => ∃ i f n : Nat, e = .returned (.tuple #[.agg #[.int .u64 (i : Int), .int .u64 (f : Int), .int .u64 (n : Int)], .int .i64 (ftE l at_ : Int)]) ∧
      (ftE l at_ = 0 → i = fI l ∧ f = fF l ∧ n = fC l) ∧ Below w.heap.size w w' := by
  obtain ⟨X, hX⟩ : ∃ X, w.alloc (.cells #[.int .u64 0, .int .u64 0, .int .u64 0] 136) = X := ⟨_, rfl⟩
  have hb : Below w.heap.size w X := by rw [← hX]; exact below_alloc _ _
  have hXa : X.heap[w.heap.size]? = some (.cells #[.int .u64 0, .int .u64 0, .int .u64 0] 136 (0, 0)) := by rw [← hX]; exact heap_alloc_new w _
  have hrd : Rd w B (.slice q l.length c) l := by rw [hl]; exact h
  obtain ⟨pa, ca, hra, hsa⟩ := tail_run (n := 24) hrd (by omega)
  obtain ⟨pb, cb, hrb, hsb⟩ := cut_run (n := 8) (m := 8) hrd (by omega)
  obtain ⟨pc, cc, hrc, hsc⟩ := cut_run (n := 16) (m := 8) hrd (by omega)
  have hr24 := hrd
  rw [hl] at hsa hsb hsc
  have htk24 : Rd w B (.slice q 24 c) (l.take 24) := Rd.take hrd (by omega)
  have htk8 : Rd w B (.slice q 8 c) (l.take 8) := Rd.take hrd (by omega)
  have hc28 : 28 ≤ c := by obtain ⟨_, _, e, h1, _⟩ := h; rw [hl] at e h1; injection e with _ _ e; omega
  have hs24 : ∀ W, (Instr.slice 22 (.slice q 28 c) none (some (.int .i64 24)) none).run Tryz.prog W = .ok (.slice q 24 c) W := fun W => slByte.run_h (n := 28) (k := 24) W q c (by omega) hc28
  have hs8 : ∀ W, (Instr.slice 22 (.slice q 28 c) none (some (.int .i64 8)) none).run Tryz.prog W = .ok (.slice q 8 c) W := fun W => slByte.run_h (n := 28) (k := 8) W q c (by omega) hc28
  have hsa' : ∀ W, (Instr.slice 22 (.slice q 28 c) (some (.int .i64 24)) none none).run Tryz.prog W = .ok (.slice pa 4 ca) W := hsa
  have hsb' : ∀ W, (Instr.slice 22 (.slice q 28 c) (some (.int .i64 8)) (some (.int .i64 16)) none).run Tryz.prog W = .ok (.slice pb 8 cb) W := hsb
  have hsc' : ∀ W, (Instr.slice 22 (.slice q 28 c) (some (.int .i64 16)) (some (.int .i64 24)) none).run Tryz.prog W = .ok (.slice pc 8 cc) W := hsc
  rw [hl] at hra
  have hu4 : unlow (l.drop 24) = unfour (l.drop 24) := unlow_four _ (by rw [List.length_drop]; omega)
  have HA := Lib.hid (fun (V : World) (hV : Below w.heap.size w V) => readLow_any (.slice pa 4 ca) (l.drop 24) B V (hra.under hV hB) (by rw [List.length_drop]; omega))
  have HS := Lib.hid (fun (V : World) (hV : Below w.heap.size w V) => (htk24.under hV hB))
  have H0 := Lib.hid (fun (V : World) (hV : Below w.heap.size w V) => readLow_any (.slice q 8 c) (l.take 8) B V (htk8.under hV hB) (by rw [List.length_take]; omega))
  have H1 := Lib.hid (fun (V : World) (hV : Below w.heap.size w V) => readLow_any (.slice pb 8 cb) ((l.drop 8).take 8) B V (hrb.under hV hB) (by rw [List.length_take]; omega))
  have H2 := Lib.hid (fun (V : World) (hV : Below w.heap.size w V) => readLow_any (.slice pc 8 cc) ((l.drop 16).take 8) B V (hrc.under hV hB) (by rw [List.length_take]; omega))
  rw [hu4] at HA
  have HT := Lib.hid (fun (V : World) (hV : Below w.heap.size w V) => ht.under hV ht.two)
  have hwc : IntKind.u64.wrap ((crc (l.take 24) : Nat) : Int) = ((crc (l.take 24) : Nat) : Int) := IntWalk.u64_in _ (by have := crc_lt (l.take 24); omega)
  have HFt : Hid (ftE l at_ = if crc (l.take 24) ≠ unfour (l.drop 24) then 13 else if fF l ≤ fI l ∨ at_ ≤ fF l then 14 else 0) := Lib.hid rfl
  have hI : unlow (l.take 8) = fI l := rfl
  have hFf : unlow ((l.drop 8).take 8) = fF l := rfl
  have hCc : unlow ((l.drop 16).take 8) = fC l := rfl
  have hI64 : fI l < 18446744073709551616 := by have h1 := unlow_lt (l.take 8); rw [List.length_take, Nat.min_eq_left (by omega)] at h1; rw [← hI]; simpa using h1
  have hF64 : fF l < 18446744073709551616 := by have h1 := unlow_lt ((l.drop 8).take 8); rw [List.length_take, List.length_drop, Nat.min_eq_left (by omega)] at h1; rw [← hFf]; simpa using h1
  rw [hI] at H0
  rw [hFf] at H1
  rw [hCc] at H2
  generalize ftE l at_ = fe at *
  generalize fI l = iv at *
  generalize fF l = fv at *
  generalize fC l = cv at *
  have HB := Lib.hid hb
  have HXa := Lib.hid hXa
  generalize unfour (l.drop 24) = U at *
  clear h hrd hr24 hra hrb hrc htk24 htk8 hsa hsb hsc hu4 ht hI hFf hCc hb hXa hl
  obtain ⟨C, hC⟩ : ∃ C, crc (l.take 24) = C := ⟨_, rfl⟩
  have HSum : Hid (∀ (V : World) (v : Value), RdL V V.heap.size v [l.take 24] → Tabs V → Calls Tryz.prog 90 #[v] V fun e w' => e = .returned (.int .u32 (C : Int)) ∧ ∃ n, V.drewN n = w') := Lib.hid (fun V v h ht => by
    have h1 := sum_any v [l.take 24] V.heap.size V h ht
    simp only [List.flatten_cons, List.flatten_nil, List.append_nil, hC] at h1
    exact h1)
  rw [hC] at hwc HFt
  clear hC
  go_enter Tryz.func77, Tryz.ntmps77
  go_upto_region 1 with (fail)
  go_cut [15] (fun b wx => b = .bool ((U : Int) != (C : Int)) ∧ Below w.heap.size w wx ∧ wx.heap[w.heap.size]? = some (.cells #[.int .u64 0, .int .u64 0, .int .u64 0] 136 (0, 0)))
  case first =>
    have HXs := Lib.hid (HB.out.size)
    have HBa := Lib.hid (HB.out.trans ((below_alloc X (.cells #[.slice q 24 c] 22)).mono HB.out.size))
    have HL1 : Hid (RdL (X.alloc (.cells #[.slice q 24 c] 22)) (X.alloc (.cells #[.slice q 24 c] 22)).heap.size (.slice (some ⟨X.heap.size, 0, none⟩) 1 1) [l.take 24]) := Lib.hid (by
      have := RdL.one (HS.out X HB.out) (Nat.le_trans hB HB.out.size) 22
      exact this.more (by simp))
    go_region_with (first
      | (go_at_call 90; refine (HSum.out _ _ (by exact HL1.out.heap rfl) (by exact (HT.out _ HBa.out).heap rfl)).mono ?_; rintro e w' ⟨rfl, m, rfl⟩)
      | (go_at_call 99; refine (HA.out _ (by exact below_heap HB.out rfl rfl rfl rfl)).mono ?_; rintro e w' ⟨rfl, rfl⟩)
      | (go_at_call 99; refine (HA.out _ (by exact below_heap HBa.out rfl rfl rfl rfl)).mono ?_; rintro e w' ⟨rfl, rfl⟩))
    all_goals
      go_wp2_with fail
      go_meet
      exact ⟨rfl, below_drewN HBa.out _, (alloc_old (block_lt HXa.out) _).trans HXa.out⟩
  case rest =>
    obtain ⟨rfl, hbx, hxz⟩ := hcut
    have HBx := Lib.hid hbx
    have HXz := Lib.hid hxz
    have x0 := frozen_of (i := 0) hxz
    have x1 := frozen_of (i := 1) hxz
    have x2 := frozen_of (i := 2) hxz
    have u0 := cell_of (i := 0) hxz rfl
    have u1 := cell_of (i := 1) hxz rfl
    have u2 := cell_of (i := 2) hxz rfl
    clear hbx hxz HA HS HSum hX hsa' hs24
    by_cases hcu : U = C
    · subst hcu
      have b1 : ((U : Int) != (U : Int)) = false := by simp
      have HFt2 : Hid (fe = if fv ≤ iv ∨ at_ ≤ fv then 14 else 0) := Lib.hid (by rw [HFt.out, if_neg (by simp)])
      clear x0 x1 x2 u0 u1 u2
      have H012 : Hid (∀ (V : World), Below w.heap.size w V → ∀ (a : Value) (n : Nat), ((a = .slice q 8 c ∧ n = iv) ∨ (a = .slice pb 8 cb ∧ n = fv) ∨ (a = .slice pc 8 cc ∧ n = cv)) → Calls Tryz.prog 99 #[a] V fun e w' => e = .returned (.int .u64 (n : Int)) ∧ w' = V) := Lib.hid (fun V hV a n h => by
        rcases h with ⟨rfl, rfl⟩ | ⟨rfl, rfl⟩ | ⟨rfl, rfl⟩
        · exact (H0.out V hV).mono fun _ _ h => ⟨h.1, h.2.symm⟩
        · exact (H1.out V hV).mono fun _ _ h => ⟨h.1, h.2.symm⟩
        · exact (H2.out V hV).mono fun _ _ h => ⟨h.1, h.2.symm⟩)
      clear H0 H1 H2
      go_upto_region 3 with (fail)
      go_cut [6] (fun p wx => ∃ g, p = .pointer (some ⟨g, 0, none⟩) ∧ wx.heap[g]? = some (.cells #[.int .u64 (iv : Int), .int .u64 (fv : Int), .int .u64 (cv : Int)] 136 (0, 0)) ∧ Below wc.heap.size wc wx)
      case first =>
        have HBa := Lib.hid (HBx.out.trans ((below_alloc wc (.cells #[.int .u64 0, .int .u64 0, .int .u64 0] 136)).mono HBx.out.size))
        go_region_with (go_at_call 99; refine (H012.out _ (by first | exact below_heap HBx.out rfl rfl rfl rfl | exact below_heap HBa.out rfl rfl rfl rfl) _ _ (by first | exact .inl ⟨rfl, rfl⟩ | exact .inr (.inl ⟨rfl, rfl⟩) | exact .inr (.inr ⟨rfl, rfl⟩))).mono ?_; rintro e w' ⟨rfl, rfl⟩)
        all_goals
          go_wp2_with fail
          go_meet
          exact ⟨_, rfl, heap_alloc_new wc _, below_drew (below_alloc wc _)⟩
      case rest =>
        obtain ⟨g, rfl, hg, hbg⟩ := hcut
        generalize wc = wA at *
        have hA := (hbg.block _ (block_lt HXz.out)).trans HXz.out
        have HBg := Lib.hid (HBx.out.trans (hbg.mono HBx.out.size))
        have HAz := Lib.hid hA
        have k0 := cell_of (i := 0) hg rfl
        have k1 := cell_of (i := 1) hg rfl
        have k2 := cell_of (i := 2) hg rfl
        have x0 := frozen_of (i := 0) hA
        have x1 := frozen_of (i := 1) hA
        have x2 := frozen_of (i := 2) hA
        have u0 := cell_of (i := 0) hA rfl
        have u1 := cell_of (i := 1) hA rfl
        have u2 := cell_of (i := 2) hA rfl
        have hwa : IntKind.u64.wrap (at_ : Int) = (at_ : Int) := IntWalk.u64_in _ (by omega)
        clear hg hbg hA
        rename_i wd
        by_cases g1 : fv ≤ iv
        · have d1 : decide ((fv : Int) ≤ (iv : Int)) = true := decide_eq_true (by omega)
          have d1n : decide (fv ≤ iv) = true := decide_eq_true g1
          have HFt3 : Hid (fe = 14) := Lib.hid (by rw [HFt2.out, if_pos (.inl g1)])
          clear g1
          go_wp2_with fail
          (try simp only [Exit.inBlock, Exit.then])
          refine bodyPost_ret (v := .tuple #[.agg #[.int .u64 0, .int .u64 0, .int .u64 0], .int .i64 14]) (results_foot rfl _ _ w.heap.size _ _ rfl rfl (set3f_heap HAz.out _ _ _) rfl) rfl ⟨0, 0, 0, ?_, ?_, ?_⟩
          · rw [HFt3.out]; rfl
          · rw [HFt3.out]; intro e; cases e
          · exact HBg.out.trans ((set3f_fr _ w.heap.size (.int .u64 0) (.int .u64 0) (.int .u64 0) (fun k => w.heap.size ≤ k) (Nat.le_refl _)).below HBg.out.size fun k hk hle => by omega)
        · have d1 : decide ((fv : Int) ≤ (iv : Int)) = false := decide_eq_false (by omega)
          have d1n : decide (fv ≤ iv) = false := decide_eq_false g1
          by_cases g2 : at_ ≤ fv
          · have d2 : decide ((at_ : Int) ≤ (fv : Int)) = true := decide_eq_true (by omega)
            have d2n : decide (at_ ≤ fv) = true := decide_eq_true g2
            have HFt3 : Hid (fe = 14) := Lib.hid (by rw [HFt2.out, if_pos (.inr g2)])
            clear g1 g2
            go_wp2_with fail
            (try simp only [Exit.inBlock, Exit.then])
            refine bodyPost_ret (v := .tuple #[.agg #[.int .u64 0, .int .u64 0, .int .u64 0], .int .i64 14]) (results_foot rfl _ _ w.heap.size _ _ rfl rfl (set3f_heap HAz.out _ _ _) rfl) rfl ⟨0, 0, 0, ?_, ?_, ?_⟩
            · rw [HFt3.out]; rfl
            · rw [HFt3.out]; intro e; cases e
            · exact HBg.out.trans ((set3f_fr _ w.heap.size (.int .u64 0) (.int .u64 0) (.int .u64 0) (fun k => w.heap.size ≤ k) (Nat.le_refl _)).below HBg.out.size fun k hk hle => by omega)
          · have d2 : decide ((at_ : Int) ≤ (fv : Int)) = false := decide_eq_false (by omega)
            have d2n : decide (at_ ≤ fv) = false := decide_eq_false g2
            have HFt3 : Hid (fe = 0) := Lib.hid (by rw [HFt2.out, if_neg (by omega)])
            clear g1 g2
            go_wp2_with fail
            (try simp only [Exit.inBlock, Exit.then])
            refine bodyPost_ret (v := .tuple #[.agg #[.int .u64 (iv : Int), .int .u64 (fv : Int), .int .u64 (cv : Int)], .int .i64 0]) (results_foot rfl _ _ w.heap.size _ _ rfl rfl (set3f_heap HAz.out _ _ _) rfl) rfl ⟨iv, fv, cv, ?_, ?_, ?_⟩
            · rw [HFt3.out]; rfl
            · intro _; exact ⟨rfl, rfl, rfl⟩
            · exact HBg.out.trans ((set3f_fr _ w.heap.size (.int .u64 (iv : Int)) (.int .u64 (fv : Int)) (.int .u64 (cv : Int)) (fun k => w.heap.size ≤ k) (Nat.le_refl _)).below HBg.out.size fun k hk hle => by omega)
    · have b1 : ((U : Int) != (C : Int)) = true := by rw [bne_iff_ne]; omega
      have HFt2 : Hid (fe = 13) := Lib.hid (by rw [HFt.out, if_pos (fun e => hcu e.symm)])
      go_wp2_with fail
      (try simp only [Exit.inBlock, Exit.then])
      have hfr := set3f_fr wc w.heap.size (.int .u64 0) (.int .u64 0) (.int .u64 0) (fun k => w.heap.size ≤ k) (Nat.le_refl _)
      refine bodyPost_ret (v := .tuple #[.agg #[.int .u64 0, .int .u64 0, .int .u64 0], .int .i64 13]) (results_foot rfl _ _ w.heap.size _ _ rfl rfl (set3f_heap HXz.out _ _ _) rfl) rfl ⟨0, 0, 0, ?_, ?_, HBx.out.trans (hfr.below HBx.out.size fun k hk hle => by omega)⟩
      · rw [HFt2.out]; rfl
      · rw [HFt2.out]; intro e; cases e
end Go.Proofs.YtagehnclkneolaaGreatDoor

/-
  bytes.Equal; slices by numbers of any kind; what sst.read goes on with, from block to block.
-/
namespace Go.Proofs.YtagehnclkneolaaGreatDoor
open Go.RowKit

set_option maxRecDepth 100000 in
set_option maxHeartbeats 1000000 in
theorem equal_any (v u : Value) (l m : List UInt8) (B B' : Nat) (w : World) (h : Rd w B v l) (h' : Rd w B' u m) :
    Calls Tryz.prog 79 #[v, u] w fun e w' => e = .returned (.bool (l == m)) ∧ w = w' := by
  have t1 := txt_run h
  have t2 := txt_run h'
  clear h h'
  cases q : (l == m)
  all_goals
    go_enter Tryz.func79, Tryz.ntmps79
    go_wp2_with fail
    go_ret
    exact ⟨rfl, rfl⟩

theorem cut_runK (kl kh : IntKind) {W0 : World} {B n m : Nat} {p : Option Addr} {cap : Nat} {l : List UInt8} (h : Rd W0 B (.slice p l.length cap) l) (hn : n + m ≤ l.length) :
    ∃ p' cap', Rd W0 B (.slice p' m cap') ((l.drop n).take m) ∧
      ∀ W, (Instr.slice 22 (.slice p l.length cap) (some (.int kl (n : Int))) (some (.int kh ((n + m : Nat) : Int))) none).run Tryz.prog W = .ok (.slice p' m cap') W := by
  have hr := h.cut hn
  obtain ⟨_, _, e, hlc, _, _⟩ := id h
  injection e with _ _ e2
  refine ⟨_, _, hr, fun W => ?_⟩
  rw [run_slice_lh W 22 _ _ _ underBytes kl kh _ _ (by omega) (by omega) (by omega), elemBytes, sizeU8]
  simp only [Result.andThen, sliced, Nat.mul_one]
  rw [show (((n + m : Nat) : Int)).toNat = n + m from by omega, show ((n : Int)).toNat = n from by omega, show n + m - n = m from by omega]
theorem cut3_run {W0 : World} {B n m : Nat} {p : Option Addr} {cap : Nat} {l : List UInt8} (h : Rd W0 B (.slice p l.length cap) l) (hn : n + m ≤ l.length) (hm : 0 < m) :
    ∃ p', Rd W0 B (.slice p' m m) ((l.drop n).take m) ∧
      ∀ W, (Instr.slice 22 (.slice p l.length cap) (some (.int .i64 (n : Int))) (some (.int .u64 ((n + m : Nat) : Int))) (some (.int .u64 ((n + m : Nat) : Int)))).run Tryz.prog W = .ok (.slice p' m m) W := by
  have hr := h.cut hn
  obtain ⟨_, _, e, hlc, _, _⟩ := id h
  injection e with _ _ e2
  rw [if_neg (by omega)] at hr
  refine ⟨p.map (·.add n), ?_, fun W => ?_⟩
  · obtain ⟨p', cap', e, h1, h2, h3⟩ := hr
    injection e with e1 e2 e3
    have hl : ((l.drop n).take m).length = m := by omega
    obtain ⟨b, off, ep, h4⟩ := h3 (by omega)
    exact ⟨p.map (·.add n), m, by rw [hl], by omega, ⟨h2.1, by omega, fun e => by rw [e1, ep] at e; cases e⟩, fun _ => ⟨b, off, by rw [e1]; exact ep, h4⟩⟩
  · rw [run_slice_lhm W 22 _ _ _ underBytes .i64 .u64 .u64 _ _ _ (by omega) (by omega) (by omega) (by omega), elemBytes, sizeU8]
    simp only [Result.andThen, sliced, Nat.mul_one]
    rw [show (((n + m : Nat) : Int)).toNat = n + m from by omega, show ((n : Int)).toNat = n from by omega, show n + m - n = m from by omega, if_neg (by omega)]

/-- What sst.read goes on with, from block to block. -/
structure RdJ (w : World) (b : List UInt8) (one two cnt ft tb xb : Nat) (wr : World) (a : Nat) (L : List Ent) (bks : List TBk) (pe : Option Addr) (ce : Nat) (us : List Value) (rv : Value) : Prop where
  ftb : wr.heap[ft]? = some (.cells #[.int .u64 (one : Int), .int .u64 (two : Int), .int .u64 (cnt : Int)] 136 (0, 0))
  tbl : wr.heap[tb]? = some (.cells #[.slice pe L.length ce, .slice none 0 0, .int .i64 (bks.length : Int)] 82 (0, 0))
  en : EnR wr w.heap.size (.slice pe L.length ce) L us
  ix : IdxM wr w.heap.size xb rv (idxR bks) a
  sep : ∀ u ∈ us, ∀ k, u.ownBlock = some k → rv.ownBlock ≠ some k
  tbg : w.heap.size ≤ tb
  xbg : w.heap.size ≤ xb
  bel : Below w.heap.size w wr
  op : opA (b.take one) 0 [] [] = opA ((b.take one).drop a) a L bks
  le : a ≤ one
  rt : rightE L = true
  wg : wgt L ≤ 31 * a
  sq : ∀ e ∈ L, e.seq < 18446744073709551616
  ro : (idxR bks).length ≤ 31 * a
  nb : bks.length ≤ a

theorem RdJ.step {w wr w' : World} {b : List UInt8} {one two cnt ft tb xb a n : Nat} {L es : List Ent} {bks : List TBk} {pe : Option Addr} {ce : Nat} {us : List Value} {rv : Value} (h : RdJ w b one two cnt ft tb xb wr a L bks pe ce us rv)
    (hlt : a < one) (hol : one ≤ b.length) (hb40 : b.length ≤ 4294967296) (hbp : blkP ((b.take one).drop a) L = some (n, es)) (ho : TkO wr w' w.heap.size tb xb (.slice pe L.length ce) rv us bks.length L es (idxR bks) a n) :
    ∃ pe' ce' us' rv', RdJ w b one two cnt ft tb xb w' (a + n) (L ++ es) (bks ++ [⟨a, n, hdK es⟩]) pe' ce' us' rv' ∧ 0 < n := by
  obtain ⟨⟨pe', ce', vs, rv', h1, h2, h3, h4⟩, hf⟩ := ho
  obtain ⟨n5, nl, hne, hrt, hwg, hsq⟩ := blkP_some hbp
  rw [List.length_drop, List.length_take, Nat.min_eq_left hol] at nl
  have hr0 : (b.take one).drop a ≠ [] := by
    intro hn
    have := congrArg List.length hn
    rw [List.length_drop, List.length_take, Nat.min_eq_left hol, List.length_nil] at this
    omega
  have hk := hdK_len hne
  have hrow : (rowB (hdK es) a n).length ≤ 30 + (hdK es).length := by
    have n1 := num_len10 (hdK es).length (by omega)
    have n2 := num_len10 a (by omega)
    have n3 := num_len10 n (by omega)
    simp only [rowB, bytB, List.length_append]
    omega
  have hfx : ∀ k, ((k = tb ∨ (Value.slice pe L.length ce).ownBlock = some k) ∨ InIdx xb rv k) → w.heap.size ≤ k := by
    rintro k ((rfl | e) | (rfl | e))
    · exact h.tbg
    · exact row_low h.en.row k e
    · exact h.xbg
    · exact (World.ownsRow.lt h.ix.own k e).1
  refine ⟨pe', ce', vs, rv', ⟨?_, ?_, h2, ?_, h4, h.tbg, h.xbg, ?_, ?_, by omega, hrt, ?_, ?_, ?_, ?_⟩, by omega⟩
  · refine hf.keep h.ftb ?_
    rintro ((e | e) | (e | e))
    · exact kind_ne h.ftb h.tbl (by decide) e
    · exact (h.en.ne_kind h.ftb (by decide) (by decide)).1 e
    · exact kind_ne h.ftb h.ix.blk (by decide) e
    · obtain ⟨cur, hcu⟩ := h.ix.own.heap e
      exact kind_ne h.ftb hcu (by decide) rfl
  · rw [h1, show (bks ++ [(⟨a, n, hdK es⟩ : TBk)]).length = bks.length + 1 from by simp]
  · rw [idxR_snoc]
    exact h3
  · exact h.bel.trans (hf.below h.bel.size fun k hk2 hs => by have := hfx k hs; omega)
  · rw [h.op, opA_some hr0 hbp, List.drop_drop]
  · rw [wgt_append]
    have := h.wg
    omega
  · intro e he
    rcases List.mem_append.1 he with he | he
    · exact h.sq e he
    · exact hsq e he
  · rw [idxR_snoc, List.length_append]
    have := h.ro
    simp only
    omega
  · rw [List.length_append, List.length_singleton]
    have := h.nb
    omega
end Go.Proofs.YtagehnclkneolaaGreatDoor
