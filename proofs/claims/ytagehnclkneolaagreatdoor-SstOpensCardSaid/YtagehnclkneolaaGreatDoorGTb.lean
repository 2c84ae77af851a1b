import Derived.Test.YtagehnclkneolaaGreatDoorGTa
import Derived.Test.YtagehnclkneolaaGreatDoorStD
import Derived.Test.YtagehnclkneolaaGreatDoorMgD
import Derived.Lib.QuietBelow

/-
  The walks over sst.filter.may, Table.May, Len, Blocks, sst.own, sst.Open.
-/
namespace Go.Proofs.YtagehnclkneolaaGreatDoor
open Go.RowKit

/-! ### may -/
def bitB (f : List UInt8) (i : Nat) : Bool := !((f.getD (i / 8) 0 &&& (1 <<< UInt8.ofNat (i % 8))) == 0)
def mayK (f key : List UInt8) : Nat → Bool
  | 0 => true
  | j + 1 => mayK f key j && bitB f (spotK key (8 * f.length) j)
theorem mayK_no (f key : List UInt8) : ∀ (n j : Nat), j < n → bitB f (spotK key (8 * f.length) j) = false → mayK f key n = false
  | 0, j, h, _ => by omega
  | n + 1, j, h, hb => by
    simp only [mayK]
    rcases Nat.lt_or_ge j n with h1 | h1
    · rw [mayK_no f key n j h1 hb]; rfl
    · have e : j = n := by omega
      subst e
      rw [hb, Bool.and_false]
theorem bit_or (x b : UInt8) (h : (b == 0) = false) : ((x ||| b) &&& b == 0) = false := by
  have e : (x ||| b) &&& b = b := by
    apply UInt8.toBitVec_inj.1
    ext i
    simp
    intro h1
    exact .inr h1
  rw [e]; exact h
theorem and_zero (x b c : UInt8) (h : (x ||| b) &&& c = 0) : x &&& c = 0 := by
  have h1 := congrArg UInt8.toBitVec h
  apply UInt8.toBitVec_inj.1
  ext i hi
  have h2 := congrArg (fun v : BitVec 8 => v[i]) h1
  simp at h2 ⊢
  intro hx
  exact h2 (.inl hx)
theorem one_shl (j : Nat) (hj : j < 8) : (((1 : UInt8) <<< UInt8.ofNat j) == 0) = false := by
  obtain rfl | rfl | rfl | rfl | rfl | rfl | rfl | rfl : j = 0 ∨ j = 1 ∨ j = 2 ∨ j = 3 ∨ j = 4 ∨ j = 5 ∨ j = 6 ∨ j = 7 := by omega
  all_goals rfl
theorem bitB_set (f : List UInt8) (i : Nat) (h : i / 8 < f.length) : bitB (setB f i) i = true := by
  unfold bitB
  rw [setB_at, if_pos ⟨rfl, h⟩, bit_or _ _ (one_shl _ (by omega))]
  rfl
theorem bitB_more (f : List UInt8) (i j : Nat) (hb : bitB f i = true) : bitB (setB f j) i = true := by
  have e : bitB f i = true → bitB (setB f j) i = true := fun hb => by
    unfold bitB at hb ⊢
    rw [setB_at]
    split
    · rcases hq : ((f.getD (i / 8) 0 ||| 1 <<< UInt8.ofNat (j % 8)) &&& 1 <<< UInt8.ofNat (i % 8) == 0) with _ | _
      · rfl
      · exfalso
        have h0 : f.getD (i / 8) 0 &&& (1 <<< UInt8.ofNat (i % 8)) = 0 := and_zero _ _ _ (beq_iff_eq.1 hq)
        rw [h0] at hb
        exact absurd hb (by decide)
    · exact hb
  exact e hb
theorem setK_may (f key : List UInt8) (h0 : 0 < f.length) : ∀ (n j : Nat), j < n → bitB (setK f key n) (spotK key (8 * f.length) j) = true
  | 0, j, h => by omega
  | n + 1, j, h => by
    have hs : spotK key (8 * f.length) j / 8 < (setK f key n).length := by
      rw [setK_len]
      have := spotK_lt key (8 * f.length) j (by omega)
      omega
    simp only [setK]
    rcases Nat.lt_or_ge j n with h1 | h1
    · exact bitB_more _ _ _ (setK_may f key h0 n j h1)
    · have e : j = n := by omega
      subst e
      exact bitB_set _ _ hs
theorem addK_may (f key : List UInt8) (h0 : 0 < f.length) : mayK (addK f key) key 4 = true := by
  have h := setK_may f key h0 4
  have hl : (addK f key).length = f.length := addK_len f key
  simp only [mayK, hl]
  rw [show addK f key = setK f key 4 from rfl, h 0 (by omega), h 1 (by omega), h 2 (by omega), h 3 (by omega)]
  rfl
theorem and_bit (x : UInt8) (j : Nat) (hj : j < 8) : bits .and .u8 (x.toNat : Int) ((2 : Int) ^ j % 256) = ((x &&& (1 <<< UInt8.ofNat j)).toNat : Int) := by
  have hx := x.toNat_lt
  rw [UInt8.toNat_and]
  obtain rfl | rfl | rfl | rfl | rfl | rfl | rfl | rfl : j = 0 ∨ j = 1 ∨ j = 2 ∨ j = 3 ∨ j = 4 ∨ j = 5 ∨ j = 6 ∨ j = 7 := by omega
  · exact u8_and_nat x.toNat 1 hx (by decide)
  · exact u8_and_nat x.toNat 2 hx (by decide)
  · exact u8_and_nat x.toNat 4 hx (by decide)
  · exact u8_and_nat x.toNat 8 hx (by decide)
  · exact u8_and_nat x.toNat 16 hx (by decide)
  · exact u8_and_nat x.toNat 32 hx (by decide)
  · exact u8_and_nat x.toNat 64 hx (by decide)
  · exact u8_and_nat x.toNat 128 hx (by decide)

theorem Rd.form_at {w : World} {B : Nat} {q : Option Addr} {n c : Nat} {l : List UInt8} (h : Rd w B (.slice q n c) l) {k : Nat} (hk : k < l.length) : ∃ b off x, q = some ⟨b, off, none⟩ ∧ b < B ∧ l[k]? = some x ∧ w.cell? ⟨b, off + k, none⟩ = some (.int .u8 (x.toNat : Int)) := by
  obtain ⟨p, cap, e, _, _, _, hat⟩ := h.form
  injection e with e1 _ _
  subst e1
  exact hat k hk

set_option maxRecDepth 100000 in
set_option maxHeartbeats 1000000 in
theorem may_any (w : World) (B : Nat) (q : Option Addr) (c : Nat) (f key : List UInt8) (h : Rd w B (.slice q f.length c) f) (hB : B ≤ w.heap.size) (h0 : 8 ≤ f.length) (hf : f.length ≤ 1099511627776) (hk : key.length ≤ 140737488354000) (ht : Tabs w) :
    Calls Tryz.prog 36 #[.slice q f.length c, .string ⟨key.toArray⟩] w fun x w' => x = .returned (.bool (mayK f key 4)) ∧ Below w.heap.size w w' := by
  have HR := Lib.hid h
  have HC := Lib.hid (bits_any w q f.length c key (by omega) hf hk ht)
  have hsl : ∀ k, spotK key (8 * f.length) k < 8 * f.length := fun k => spotK_lt key _ k (by omega)
  have HSl := Lib.hid hsl
  have HNo := Lib.hid (mayK_no f key 4)
  have HSu : Hid (∀ j, mayK f key (j + 1) = (mayK f key j && bitB f (spotK key (8 * f.length) j))) := Lib.hid (fun j => rfl)
  have HZ : Hid (mayK f key 0 = true) := Lib.hid rfl
  have hlz : ((f.length : Int) == 0) = false := by rw [beq_eq_false_iff_ne]; omega
  have hlz2 : (f.length == 0) = false := by rw [beq_eq_false_iff_ne]; omega
  obtain ⟨sp, hsp⟩ : ∃ sp, spotK key (8 * f.length) = sp := ⟨_, rfl⟩
  rw [hsp] at HC HSl HNo HSu
  generalize mayK f key = mk at *
  clear h ht hk hsl hsp
  go_enter Tryz.func36, Tryz.ntmps36
  go_wp2_with fail
  refine HC.out.mono ?_
  rintro r w1 ⟨rfl, hb1⟩
  have hix := fun (k : Nat) (hk : k < 4) (W : World) => iv4 W sp k hk
  have HIx := Lib.hid hix
  have HB1 := Lib.hid hb1
  have HR1 := Lib.hid (HR.out.under hb1 hB)
  clear hb1 hix
  generalize sp4 sp 4 = arr at *
  go_wp2_with fail
  go_loop [13] (fun i => ∃ k : Nat, k ≤ 4 ∧ i = .int .i64 (k : Int) ∧ mk k = true) (fun i => 4 - (intOf i).toNat)
  case atStart => exact ⟨0, by omega, rfl, HZ.out⟩
  case round =>
    obtain ⟨k, hk, rfl, hm⟩ := hrel
    have HM := Lib.hid hm
    clear hm
    by_cases hlt : k < 4
    · have d1 : decide ((k : Int) < 4) = true := decide_eq_true (by omega)
      have hix := HIx.out k hlt
      have hs1 := HSl.out k
      have HSu1 := Lib.hid (HSu.out k)
      have HNo1 := Lib.hid (HNo.out k hlt)
      generalize sp k = s at *
      obtain ⟨b, off, x, rfl, hbB, hx, hc⟩ := HR1.out.form_at (k := s / 8) (by omega)
      have hi1 : ((s : Int) / 8) < (f.length : Int) := by omega
      have hi2 : (0 : Int) ≤ (s : Int) / 8 := by omega
      have hi3 : ((s : Int) / 8).toNat = s / 8 := by omega
      have hAnd := and_bit x (s % 8) (by omega)
      have hgd : f.getD (s / 8) 0 = x := by rw [List.getD_eq_getElem?_getD, hx]; rfl
      have HBt : Hid (bitB f s = !((x &&& (1 <<< UInt8.ofNat (s % 8))) == 0)) := Lib.hid (by unfold bitB; rw [hgd])
      obtain ⟨y, hy⟩ : ∃ y, x &&& (1 <<< UInt8.ofNat (s % 8)) = y := ⟨_, rfl⟩
      rw [hy] at hAnd HBt
      clear hx hgd hy
      rcases Nat.eq_zero_or_pos y.toNat with hy0 | hy0
      · have hbit : bitB f s = false := by rw [HBt.out, UInt8.toNat_inj.1 (show y.toNat = (0 : UInt8).toNat from hy0)]; rfl
        have HN2 := Lib.hid (HNo1.out hbit)
        rw [hy0] at hAnd
        clear hy0 hbit
        go_wp2_with fail
        go_ret
        exact ⟨by rw [HN2.out]; rfl, HB1.out⟩
      · have hyz : ((y.toNat : Int) == 0) = false := by rw [beq_eq_false_iff_ne]; omega
        have hbit : bitB f s = true := by
          rw [HBt.out]
          rcases hq : (y == 0) with _ | _
          · rfl
          · rw [beq_iff_eq] at hq; subst hq; simp at hy0
        have HN2 : Hid (mk (k + 1) = true) := Lib.hid (by rw [HSu1.out, HM.out, hbit]; rfl)
        clear hbit hy0
        go_wp2_with fail
        go_round
        case rel => exact ⟨k + 1, by omega, by go_num, HN2.out⟩
        case measure => simp [intOf]; omega
    · obtain rfl : k = 4 := by omega
      go_wp2_with fail
      go_ret
      exact ⟨by rw [HM.out]; rfl, HB1.out⟩
end Go.Proofs.YtagehnclkneolaaGreatDoor

/-
  The walks over sst.own, sst.Open, Table.Len, Blocks, May, from, Get.
-/
namespace Go.Proofs.YtagehnclkneolaaGreatDoor
open Go.RowKit

set_option maxRecDepth 100000 in
set_option maxHeartbeats 1000000 in
theorem own_any (w : World) (F : Nat → Prop) (e : Ent) (q : Option Addr) (c : Nat) (hv : By w F (.slice q e.val.length c) e.val) (hl : e.val.length ≤ 140737488355000) :
    Calls Tryz.prog 35 #[.agg #[.string ⟨e.key.toArray⟩, .int .u64 (e.seq : Int), .bool e.gone, .slice q e.val.length c]] w fun x w' => ∃ q' c', x = .returned (.agg #[.string ⟨e.key.toArray⟩, .int .u64 (e.seq : Int), .bool e.gone, .slice q' e.val.length c']) ∧
      Own w' w.heap.size (.slice q' e.val.length c') e.val ∧ Below w.heap.size w w' := by
  obtain ⟨X, hX⟩ : ∃ X, (w.alloc (.cells #[.string ⟨e.key.toArray⟩, .int .u64 (e.seq : Int), .bool e.gone, .slice q e.val.length c] 37)).alloc (.cells #[.string ⟨#[]⟩, .int .u64 0, .bool false, .slice none 0 0] 37) = X := ⟨_, rfl⟩
  have hb : Below w.heap.size w X := by rw [← hX]; exact ((Below.refl _ _).alloc (Nat.le_refl _) _).alloc (by simp) _
  have hXs : X.heap.size = w.heap.size + 2 := by rw [← hX]; simp
  have hXa : X.heap[w.heap.size]? = some (.cells #[.string ⟨e.key.toArray⟩, .int .u64 (e.seq : Int), .bool e.gone, .slice q e.val.length c] 37 (0, 0)) := by
    rw [← hX]
    exact (alloc_old (by simp) _).trans (heap_alloc_new w _)
  have hXb : X.heap[w.heap.size + 1]? = some (.cells #[.string ⟨#[]⟩, .int .u64 0, .bool false, .slice none 0 0] 37 (0, 0)) := by
    rw [← hX]
    exact heap_alloc2_new w _ _
  have HRd := Lib.hid ((hv.below hb).rd)
  have a3 := cell_of (i := 3) hXa rfl
  have HXs := Lib.hid hXs
  have HXa := Lib.hid hXa
  have HXb := Lib.hid hXb
  have HB := Lib.hid hb
  clear hv hb hXs hXa hXb
  go_enter Tryz.func35, Tryz.ntmps35
  go_wp2_with (at_builtin; refine wpList_append_rd rfl _ _ rfl X.heap.size X.heap.size _ _ [] e.val rfl (own_nil X X.heap.size) rfl HRd.out (by simp; omega) (Nat.le_refl _) ?_; intro v3 w3 hown3 hb3; rw [List.nil_append] at hown3; obtain ⟨q3, c3, rfl, _, _⟩ := hown3.shp; have hA3 := (hb3.block _ (block_lt HXa.out)).trans HXa.out; have hB3 := (hb3.block _ (block_lt HXb.out)).trans HXb.out; have HA3 := Lib.hid hA3; have HB3 := Lib.hid hB3; have HO3 := Lib.hid hown3; have HBl := Lib.hid hb3; have f3 := frozen_of (i := 3) hA3; have y3 := cell_of (i := 3) hA3 rfl; have y0 := cell_of (i := 0) hA3 rfl; have y1 := cell_of (i := 1) hA3 rfl; have y2 := cell_of (i := 2) hA3 rfl; have g0 := frozen_of (i := 0) hB3; have g1 := frozen_of (i := 1) hB3; have g2 := frozen_of (i := 2) hB3; have g3 := frozen_of (i := 3) hB3; have u0 := cell_of (i := 0) hB3 rfl; have u1 := cell_of (i := 1) hB3 rfl; have u2 := cell_of (i := 2) hB3 rfl; have u3 := cell_of (i := 3) hB3 rfl; clear hown3 hb3 hA3 hB3)
  (try simp only [Exit.inBlock, Exit.then])
  have hfr1 : Fr (fun k => k = w.heap.size) w3 (w3.setCell ⟨w.heap.size, 3, none⟩ (.slice q3 e.val.length c3)) := Fr.setCell (fun k => k = w.heap.size) w3 (p := ⟨w.heap.size, 3, none⟩) rfl _
  have hB4 := hfr1.keep HB3.out (by omega)
  have hfr2 := set4_fr (w3.setCell ⟨w.heap.size, 3, none⟩ (.slice q3 e.val.length c3)) (w.heap.size + 1) (.string ⟨e.key.toArray⟩) (.int .u64 (e.seq : Int)) (.bool e.gone) (.slice q3 e.val.length c3) (fun k => k = w.heap.size + 1) rfl
  have hX3 := HBl.out.size
  have hXz := HXs.out
  refine bodyPost_ret (v := .agg #[.string ⟨e.key.toArray⟩, .int .u64 (e.seq : Int), .bool e.gone, .slice q3 e.val.length c3]) (results_ent1 rfl _ _ (w.heap.size + 1) _ rfl (set4_heap hB4 _ _ _ _) rfl) rfl ⟨q3, c3, rfl, ?_, ?_⟩
  · refine (HO3.out.more (by omega)).keep fun k hk => ?_
    have h1 := World.ownsRow.lt HO3.out k hk
    exact (hfr2.block k (Nat.lt_of_lt_of_le h1.2 hfr1.size) (by omega)).trans (hfr1.block k h1.2 (by omega))
  · exact ((HB.out.trans (HBl.out.mono HB.out.size)).trans (hfr1.below (by omega) (fun k hk e => by omega))).trans (hfr2.below (by have := hfr1.size; omega) (fun k hk e => by omega))

/-! ### Open -/
def OpenT (w : World) (b : List UInt8) (x : Ending) (w' : World) : Prop :=
  (∃ at_ e g : Nat, opnP b = .inl (at_, e) ∧ x = .returned (.tuple #[.pointer none, .iface 61 (.pointer (some ⟨g, 0, none⟩))]) ∧ w'.heap[g]? = some (.cells #[.int .i64 (at_ : Int), .int .i64 (e : Int)] 66 (0, 0))) ∨
  (∃ L bks tb, opnP b = .inr (L, bks) ∧ x = .returned (.tuple #[.pointer (some ⟨tb, 0, none⟩), .nilIface]) ∧ TblM w' w.heap.size tb L bks.length)
set_option maxRecDepth 100000 in
set_option maxHeartbeats 1000000 in
theorem open_any (w : World) (q : Option Addr) (c : Nat) (b : List UInt8) (B : Nat) (h : Rd w B (.slice q b.length c) b) (hB : B ≤ w.heap.size) (ht : Tabs w) (hb40 : b.length ≤ 1073741824) :
    Calls Tryz.prog 19 #[.slice q b.length c] w fun x w' => OpenT w b x w' ∧ Below w.heap.size w w' := by
  have HC := Lib.hid (read_any w q c b B h hB ht hb40)
  clear h ht
  go_enter Tryz.func19, Tryz.ntmps19
  go_wp2_with fail
  refine HC.out.mono ?_
  rintro x w1 ⟨ht, hb⟩
  have HB := Lib.hid hb
  rcases ht with ⟨at_, e, g, hop, rfl, hg⟩ | ⟨L, bks, tb, hop, rfl, hT⟩
  · have HG := Lib.hid (And.intro hop hg)
    clear hop hg hb
    go_wp2_with fail
    refine Go.bodyPost_ret (Go.results_tmp2 rfl _ _ _) rfl ?_
    exact ⟨.inl ⟨at_, e, g, HG.out.1, rfl, HG.out.2⟩, HB.out⟩
  · have HG := Lib.hid (And.intro hop hT)
    clear hop hT hb
    go_wp2_with fail
    refine Go.bodyPost_ret (Go.results_tmp2 rfl _ _ _) rfl ?_
    exact ⟨.inr ⟨L, bks, tb, HG.out.1, rfl, HG.out.2⟩, HB.out⟩

/-! ### what a table tells -/
theorem TblM.below {w w' : World} {base tb nb : Nat} {L : List Ent} (h : TblM w base tb L nb) (hb : Below w.heap.size w w') : TblM w' base tb L nb := by
  obtain ⟨pe, ce, us, qf, cf, h1, h2, h3⟩ := h
  exact ⟨pe, ce, us, qf, cf, (hb.block _ (block_lt h1)).trans h1, h2.after hb, h3.after hb⟩
set_option maxRecDepth 100000 in
set_option maxHeartbeats 1000000 in
theorem len_any (w : World) (base tb nb : Nat) (L : List Ent) (h : TblM w base tb L nb) : Calls Tryz.prog 20 #[.pointer (some ⟨tb, 0, none⟩)] w fun x w' => x = .returned (.int .i64 (L.length : Int)) ∧ w = w' := by
  obtain ⟨pe, ce, us, qf, cf, h1, _, _⟩ := h
  have a0 := cell_of (i := 0) h1 rfl
  clear h1
  go_enter Tryz.func20, Tryz.ntmps20
  go_wp2_with fail
  go_ret
  exact ⟨rfl, rfl⟩
set_option maxRecDepth 100000 in
set_option maxHeartbeats 1000000 in
theorem blocks_any (w : World) (base tb nb : Nat) (L : List Ent) (h : TblM w base tb L nb) : Calls Tryz.prog 21 #[.pointer (some ⟨tb, 0, none⟩)] w fun x w' => x = .returned (.int .i64 (nb : Int)) ∧ w = w' := by
  obtain ⟨pe, ce, us, qf, cf, h1, _, _⟩ := h
  have a2 := cell_of (i := 2) h1 rfl
  clear h1
  go_enter Tryz.func21, Tryz.ntmps21
  go_wp2_with fail
  go_ret
  exact ⟨rfl, rfl⟩
theorem filB_8 (L : List Ent) : 8 ≤ (filB L).length := by
  unfold filB
  rw [filF_len, List.length_replicate]
  exact filN_pos _
set_option maxRecDepth 100000 in
set_option maxHeartbeats 1000000 in
theorem tmay_any (w : World) (base tb nb : Nat) (L : List Ent) (key : List UInt8) (h : TblM w base tb L nb) (hs : ShL L) (hk : key.length ≤ 140737488354000) (ht : Tabs w) :
    Calls Tryz.prog 13 #[.pointer (some ⟨tb, 0, none⟩), .string ⟨key.toArray⟩] w fun x w' => x = .returned (.bool (mayK (filB L) key 4)) ∧ Below w.heap.size w w' := by
  obtain ⟨pe, ce, us, qf, cf, h1, _, h3⟩ := h
  have a1 := cell_of (i := 1) h1 rfl
  have hfl := filB_len hs
  have HC := Lib.hid (may_any w w.heap.size qf cf (filB L) key (h3.rd (by omega)) (Nat.le_refl _) (filB_8 L) hfl hk ht)
  clear h1 h3
  go_enter Tryz.func13, Tryz.ntmps13
  go_wp2_with fail
  refine HC.out.mono ?_
  rintro x w1 ⟨rfl, hb⟩
  go_wp2_with fail
  go_ret
  exact ⟨rfl, hb⟩
end Go.Proofs.YtagehnclkneolaaGreatDoor

/-
  The walks over (*sst.Table).from$1, from, Get.
-/
namespace Go.Proofs.YtagehnclkneolaaGreatDoor
open Go.RowKit

theorem plcE_at {p : Ent} {L : List Ent} (hs : SrtE L) {i : Nat} (hi : i < L.length) : decide (0 ≤ cmpE L[i] p) = decide (plcE p L ≤ i) := by
  rcases Nat.lt_or_ge i (plcE p L) with h | h
  · have h1 := takeWhile_lo (fun f => lessE f p) L i L[i] h (List.getElem?_eq_getElem hi)
    have h2 : ¬ (0 ≤ cmpE L[i] p) := fun hh => by rw [cmpE_ge] at hh; rw [h1] at hh; cases hh
    rw [decide_eq_false h2, decide_eq_false (by omega)]
  · have hn : plcE p L < L.length := by omega
    have h1 := takeWhile_hi (fun f => lessE f p) L L[plcE p L] (List.getElem?_eq_getElem hn)
    have h2 : 0 ≤ cmpE L[i] p := by
      rw [cmpE_ge]
      rcases hq : lessE L[i] p with _ | _
      · rfl
      · exfalso
        rcases Nat.eq_or_lt_of_le h with e | h3
        · have : L[plcE p L] = L[i] := by simp only [e]
          rw [this] at h1
          rw [hq] at h1
          cases h1
        · have h4 := List.pairwise_iff_getElem.1 hs (plcE p L) i hn hi h3
          rw [lessE_trans h4 hq] at h1
          cases h1
    rw [decide_eq_true h2, decide_eq_true h]

set_option maxRecDepth 100000 in
set_option maxHeartbeats 1000000 in
theorem from1_any (w : World) (F : Nat → Prop) (bt tb bp : Nat) (v : Value) (L : List Ent) (key : List UInt8) (sq : Nat) (ht : w.cell? ⟨bt, 0, none⟩ = some (.pointer (some ⟨tb, 0, none⟩))) (hv : w.cell? ⟨tb, 0, none⟩ = some v) (h : En w F v L)
    (hp : w.heap[bp]? = some (.cells #[.string ⟨key.toArray⟩, .int .u64 (sq : Int), .bool false, .slice none 0 0] 37 (0, 0))) {i : Nat} (hi : i < L.length) :
    Calls Tryz.prog 65 #[.int .i64 (i : Int), .pointer (some ⟨bt, 0, none⟩), .pointer (some ⟨bp, 0, none⟩)] w fun e w' => e = .returned (.bool (decide (0 ≤ cmpE L[i] ⟨key, sq, false, []⟩))) ∧ Below w.heap.size w w' := by
  obtain ⟨p, cap, rfl, hlc, hl47, hcm, _⟩ := h.form
  obtain ⟨b1, off1, q1, c1, rfl, hb1, _, hV1, d0, d1, d2, d3⟩ := h.at_ (List.getElem?_eq_getElem hi)
  have p0 := cell_of (i := 0) hp rfl
  have p1 := cell_of (i := 1) hp rfl
  have p2 := cell_of (i := 2) hp rfl
  have p3 := cell_of (i := 3) hp rfl
  have HC := Lib.hid (mg_compare w.drew L[i] ⟨key, sq, false, []⟩ q1 none L[i].val.length 0 c1 0)
  generalize L[i] = x at *
  have hiz : (i : Int) < (L.length : Int) := by omega
  have hi0 : (0 : Int) ≤ (i : Int) := by omega
  generalize cmpE x ⟨key, sq, false, []⟩ = c at *
  clear h hV1 hb1 hp
  go_enter Tryz.func65, Tryz.ntmps65
  go_wp2_with fail
  refine wp_region_quiet_tail 8 (by kernel_rfl) (by kernel_rfl) ?_
  simp only [List.take_succ_cons, List.take_zero, List.drop_succ_cons, List.drop_zero]
  repeat (go_big_quiet_step (fail))
  refine wpQuiet_nil ?_
  go_wp2_with fail
  refine HC.out.mono ?_
  rintro r w1 ⟨rfl, hb2⟩
  have HB2 : Hid (Below w.heap.size w w1) := Lib.hid (Below.trans (by exact below_drew (Below.refl _ _)) hb2)
  clear hb2 d0 d1 d2 d3 p0 p1 p2 p3 ht hv
  go_wp2_with fail
  go_ret
  exact ⟨rfl, HB2.out⟩

set_option maxRecDepth 100000 in
set_option maxHeartbeats 2000000 in
theorem from_any (w : World) (base tb nb : Nat) (L : List Ent) (key : List UInt8) (sq : Nat) (h : TblM w base tb L nb) (hs : ShL L) (hsr : SrtE L) (hl : L.length ≤ 1048576) :
    Calls Tryz.prog 34 #[.pointer (some ⟨tb, 0, none⟩), .string ⟨key.toArray⟩, .int .u64 (sq : Int)] w fun x w' => ∃ q c, x = .returned (.slice q (L.length - plcE ⟨key, sq, false, []⟩ L) c) ∧
      En w' (fun k => base ≤ k) (.slice q (L.length - plcE ⟨key, sq, false, []⟩ L) c) (L.drop (plcE ⟨key, sq, false, []⟩ L)) ∧ Below w.heap.size w w' := by
  obtain ⟨pe, ce, us, qf, cf, h1, h2, h3⟩ := h
  have HEnW : Hid (En w (fun k => base ≤ k) (.slice pe L.length ce) L) := Lib.hid ⟨us, h2.len47 (fun e he => by have := wgt_mem L e he; have := hs.2; omega) (by omega)⟩
  obtain ⟨m, hm⟩ : ∃ m, plcE ⟨key, sq, false, []⟩ L = m := ⟨_, rfl⟩
  have hml : m ≤ L.length := by rw [← hm]; exact plcE_le _ _
  have hat := fun (i : Nat) (hi : i < L.length) => plcE_at (p := ⟨key, sq, false, []⟩) hsr hi
  obtain ⟨Y, hY⟩ : ∃ Y, (w.alloc (.cells #[.pointer (some ⟨tb, 0, none⟩)] 24)).alloc (.cells #[.string ⟨#[]⟩, .int .u64 0, .bool false, .slice none 0 0] 37) = Y := ⟨_, rfl⟩
  have hbY : Below w.heap.size w Y := by rw [← hY]; exact ((Below.refl _ _).alloc (Nat.le_refl _) _).alloc (by simp) _
  have hYa : Y.heap[w.heap.size]? = some (.cells #[.pointer (some ⟨tb, 0, none⟩)] 24 (0, 0)) := by
    rw [← hY]
    exact (alloc_old (by simp) _).trans (heap_alloc_new w _)
  have hYb : Y.heap[w.heap.size + 1]? = some (.cells #[.string ⟨#[]⟩, .int .u64 0, .bool false, .slice none 0 0] 37 (0, 0)) := by
    rw [← hY]
    exact heap_alloc2_new w _ _
  have x0 := frozen_of (i := 0) hYb
  have x1 := frozen_of (i := 1) hYb
  have x2 := frozen_of (i := 2) hYb
  have x3 := frozen_of (i := 3) hYb
  have u0 := cell_of (i := 0) hYb rfl
  have u1 := cell_of (i := 1) hYb rfl
  have u2 := cell_of (i := 2) hYb rfl
  have u3 := cell_of (i := 3) hYb rfl
  obtain ⟨X, hX⟩ : ∃ X, set4 Y (w.heap.size + 1) (.string ⟨key.toArray⟩) (.int .u64 (sq : Int)) (.bool false) (.slice none 0 0) = X := ⟨_, rfl⟩
  have hfX := set4_fr Y (w.heap.size + 1) (.string ⟨key.toArray⟩) (.int .u64 (sq : Int)) (.bool false) (.slice none 0 0) (fun k => k = w.heap.size + 1) rfl
  rw [hX] at hfX
  have hb : Below w.heap.size w X := hbY.trans (hfX.below hbY.size (fun k hk e => by omega))
  have hXa := hfX.keep hYa (by omega)
  have hXb : X.heap[w.heap.size + 1]? = some (.cells #[.string ⟨key.toArray⟩, .int .u64 (sq : Int), .bool false, .slice none 0 0] 37 (0, 0)) := by rw [← hX]; exact set4_heap hYb _ _ _ _
  unfold set4 at hX
  have htX := (hb.block _ (block_lt h1)).trans h1
  have a0 := cell_of (i := 0) hXa rfl
  have t0 := cell_of (i := 0) htX rfl
  obtain ⟨q, c, hent, hrun⟩ := HEnW.out.from_ (i := m) hml
  have HEnt := Lib.hid (And.intro hent hb)
  have HS := Lib.hid (fun (V : World) (hV : Below X.heap.size X V) => srt_search V 65 #[.pointer (some ⟨w.heap.size, 0, none⟩), .pointer (some ⟨w.heap.size + 1, 0, none⟩)] L.length m hml hl
    (fun U hU i hi => by
      have hXU : Below X.heap.size X U := hV.trans (hU.mono hV.size)
      have h6 := from1_any U (fun k => base ≤ k) w.heap.size tb (w.heap.size + 1) (.slice pe L.length ce) L key sq (cell_of ((hXU.block _ (block_lt hXa)).trans hXa) rfl) (cell_of ((hXU.block _ (block_lt htX)).trans htX) rfl) ((HEnW.out.below hb).below hXU) ((hXU.block _ (block_lt hXb)).trans hXb) hi
      rw [hat i hi, hm] at h6
      exact h6) (enters_of Tryz.func65 (by kernel_rfl) rfl))
  rw [hm]
  have HtX := Lib.hid (And.intro hXa htX)
  clear h1 h2 h3 hs hsr hm hat hb hXa hXb htX hent hml hbY hYa hYb hfX
  go_enter Tryz.func34, Tryz.ntmps34
  go_upto_region 2 with (fail)
  have a0' := fun d os => cell_regrown a0 d os
  have t0' := fun d os => cell_regrown t0 d os
  clear a0 t0 x0 x1 x2 x3 u0 u1 u2 u3 hY hX
  refine wp_region_quiet_below (by kernel_rfl) (by kernel_rfl) ?_
  repeat (go_big_quiet_step (exact Calls.regrown_of (HS.out _ (below_regrown _ _ _))))
  refine wpQuiet_nil ?_
  intro w8 hw8
  obtain ⟨⟨dq, osq⟩, hw9⟩ := hw8
  subst hw9
  have HBf : Hid (Below X.heap.size X (Go.Sort.grow (redrawn X dq) osq)) := Lib.hid (below_regrown X dq osq)
  go_wp2_with fail
  go_ret
  exact ⟨q, c, rfl, (HEnt.out.1.below HEnt.out.2).below HBf.out, HEnt.out.2.trans (HBf.out.mono HEnt.out.2.size)⟩

/-- The newest of a key up to a number: the first from its place on, if that has the key. -/
def getE (L : List Ent) (key : List UInt8) (up : Nat) : Option Ent :=
  match L.drop (plcE ⟨key, up, false, []⟩ L) with
  | [] => none
  | e :: _ => if e.key == key then some e else none

set_option maxRecDepth 100000 in
set_option maxHeartbeats 2000000 in
theorem get_any (w : World) (base tb nb : Nat) (L : List Ent) (key : List UInt8) (up : Nat) (h : TblM w base tb L nb) (hs : ShL L) (hsr : SrtE L) (hl : L.length ≤ 1048576) :
    Calls Tryz.prog 10 #[.pointer (some ⟨tb, 0, none⟩), .string ⟨key.toArray⟩, .int .u64 (up : Int)] w fun x w' => ∃ q c, x = .returned (.tuple #[.agg #[.string ⟨(optE (getE L key up)).key.toArray⟩, .int .u64 ((optE (getE L key up)).seq : Int), .bool (optE (getE L key up)).gone, .slice q (optE (getE L key up)).val.length c], .bool (getE L key up).isSome]) ∧
      By w' (fun k => w.heap.size ≤ k) (.slice q (optE (getE L key up)).val.length c) (optE (getE L key up)).val ∧ Below w.heap.size w w' := by
  obtain ⟨X, hX⟩ : ∃ X, w.alloc (.cells #[.string ⟨#[]⟩, .int .u64 0, .bool false, .slice none 0 0] 37) = X := ⟨_, rfl⟩
  have hb : Below w.heap.size w X := by rw [← hX]; exact below_alloc _ _
  have hXa : X.heap[w.heap.size]? = some (.cells #[.string ⟨#[]⟩, .int .u64 0, .bool false, .slice none 0 0] 37 (0, 0)) := by rw [← hX]; exact heap_alloc_new w _
  have HC := Lib.hid (from_any X base tb nb L key up (h.below hb) hs hsr hl)
  have hg : getE L key up = match L.drop (plcE ⟨key, up, false, []⟩ L) with
    | [] => none
    | e :: _ => if e.key == key then some e else none := rfl
  have hdl : (L.drop (plcE ⟨key, up, false, []⟩ L)).length = L.length - plcE ⟨key, up, false, []⟩ L := List.length_drop
  have hmem : ∀ e ∈ L.drop (plcE ⟨key, up, false, []⟩ L), e.val.length ≤ 140737488355000 := fun e he => by
    have := wgt_mem L e (List.mem_of_mem_drop he); have := hs.2; omega
  generalize L.length - plcE ⟨key, up, false, []⟩ L = n at *
  generalize L.drop (plcE ⟨key, up, false, []⟩ L) = D at *
  generalize getE L key up = o at *
  have HB := Lib.hid hb
  have HXa := Lib.hid hXa
  have HMem := Lib.hid hmem
  clear h hs hsr hb hXa hmem
  cases D with
  | nil =>
    obtain rfl : n = 0 := by simpa using hdl.symm
    subst hg
    clear hdl
    go_enter Tryz.func10, Tryz.ntmps10
    go_wp2_with fail
    refine HC.out.mono ?_
    rintro x w1 ⟨q, c, rfl, hen, hb1⟩
    have hz := (hb1.block _ (block_lt HXa.out)).trans HXa.out
    have HZ := Lib.hid hz
    have HB1 := Lib.hid (HB.out.trans (hb1.mono HB.out.size))
    have g0 := frozen_of (i := 0) hz
    have g1 := frozen_of (i := 1) hz
    have g2 := frozen_of (i := 2) hz
    have g3 := frozen_of (i := 3) hz
    have u0 := cell_of (i := 0) hz rfl
    have u1 := cell_of (i := 1) hz rfl
    have u2 := cell_of (i := 2) hz rfl
    have u3 := cell_of (i := 3) hz rfl
    clear hen hb1 hz
    go_wp2_with fail
    (try simp only [Exit.inBlock, Exit.then])
    have hfr := set4_fr w1 w.heap.size (.string ⟨#[]⟩) (.int .u64 0) (.bool false) (.slice none 0 0) (fun k => w.heap.size ≤ k) (Nat.le_refl _)
    refine bodyPost_ret (v := .tuple #[.agg #[.string ⟨#[]⟩, .int .u64 0, .bool false, .slice none 0 0], .bool false]) (results_ent rfl _ _ w.heap.size _ _ rfl rfl (set4_heap HZ.out _ _ _ _) rfl) rfl ⟨none, 0, rfl, By.nil _ _, HB1.out.trans (hfr.below HB1.out.size fun k hk hle => by omega)⟩
  | cons e r =>
    have hn0 : ((n : Int) == 0) = false := by rw [beq_eq_false_iff_ne]; simp only [List.length_cons] at hdl; omega
    have hn0n : (n == 0) = false := by rw [beq_eq_false_iff_ne]; simp only [List.length_cons] at hdl; omega
    have hnp : (0 : Int) < (n : Int) := by simp only [List.length_cons] at hdl; omega
    have hev := HMem.out e (.head _)
    clear hdl
    rcases hq : (e.key == key) with _ | _
    · have ho : o = none := by rw [hg]; simp only [hq]; rfl
      subst ho
      clear hg
      go_enter Tryz.func10, Tryz.ntmps10
      go_wp2_with fail
      refine HC.out.mono ?_
      rintro x w1 ⟨q, c, rfl, hen, hb1⟩
      obtain ⟨b1, off1, q1, c1, rfl, hbl1, _, hV1, d0, d1, d2, d3⟩ := hen.at_ (k := 0) rfl
      rw [Nat.zero_mul, Nat.add_zero] at d0
      have hz := (hb1.block _ (block_lt HXa.out)).trans HXa.out
      have HZ := Lib.hid hz
      have HB1 := Lib.hid (HB.out.trans (hb1.mono HB.out.size))
      have g0 := frozen_of (i := 0) hz
      have g1 := frozen_of (i := 1) hz
      have g2 := frozen_of (i := 2) hz
      have g3 := frozen_of (i := 3) hz
      have u0 := cell_of (i := 0) hz rfl
      have u1 := cell_of (i := 1) hz rfl
      have u2 := cell_of (i := 2) hz rfl
      have u3 := cell_of (i := 3) hz rfl
      clear hen hb1 hz hV1
      go_wp2_with fail
      (try simp only [Exit.inBlock, Exit.then])
      have hfr := set4_fr w1 w.heap.size (.string ⟨#[]⟩) (.int .u64 0) (.bool false) (.slice none 0 0) (fun k => w.heap.size ≤ k) (Nat.le_refl _)
      refine bodyPost_ret (v := .tuple #[.agg #[.string ⟨#[]⟩, .int .u64 0, .bool false, .slice none 0 0], .bool false]) (results_ent rfl _ _ w.heap.size _ _ rfl rfl (set4_heap HZ.out _ _ _ _) rfl) rfl ⟨none, 0, rfl, By.nil _ _, HB1.out.trans (hfr.below HB1.out.size fun k hk hle => by omega)⟩
    · have ho : o = some e := by rw [hg]; simp only [hq]; rfl
      subst ho
      clear hg
      go_enter Tryz.func10, Tryz.ntmps10
      go_wp2_with fail
      refine HC.out.mono ?_
      rintro x w1 ⟨q, c, rfl, hen, hb1⟩
      obtain ⟨b1, off1, q1, c1, rfl, hbl1, _, hV1, d0, d1, d2, d3⟩ := hen.at_ (k := 0) rfl
      rw [Nat.zero_mul, Nat.add_zero] at d0 d1 d2 d3
      have HOw := Lib.hid (own_any w1 _ e q1 c1 hV1 hev)
      have hz1 := (hb1.block _ (block_lt HXa.out)).trans HXa.out
      have HZ1 := Lib.hid hz1
      have HB1 := Lib.hid (HB.out.trans (hb1.mono HB.out.size))
      clear hen hb1 hV1 hz1
      go_wp2_with fail
      refine HOw.out.mono ?_
      rintro x w2 ⟨q2, c2, rfl, hown2, hb2⟩
      have hz := (hb2.block _ (block_lt HZ1.out)).trans HZ1.out
      have HZ := Lib.hid hz
      have HO2 := Lib.hid hown2
      have HB2 := Lib.hid (HB1.out.trans (hb2.mono HB1.out.size))
      have hs1 : w.heap.size ≤ w1.heap.size := HB1.out.size
      have hltA := Lib.hid (block_lt HZ1.out)
      have g0 := frozen_of (i := 0) hz
      have g1 := frozen_of (i := 1) hz
      have g2 := frozen_of (i := 2) hz
      have g3 := frozen_of (i := 3) hz
      have u0 := cell_of (i := 0) hz rfl
      have u1 := cell_of (i := 1) hz rfl
      have u2 := cell_of (i := 2) hz rfl
      have u3 := cell_of (i := 3) hz rfl
      clear hown2 hb2 hz d0 d1 d2 d3
      go_wp2_with fail
      (try simp only [Exit.inBlock, Exit.then])
      have hfr := set4_fr w2 w.heap.size (.string ⟨e.key.toArray⟩) (.int .u64 (e.seq : Int)) (.bool e.gone) (.slice q2 e.val.length c2) (fun k => k = w.heap.size) rfl
      refine bodyPost_ret (v := .tuple #[.agg #[.string ⟨e.key.toArray⟩, .int .u64 (e.seq : Int), .bool e.gone, .slice q2 e.val.length c2], .bool true]) (results_ent rfl _ _ w.heap.size _ _ rfl rfl (set4_heap HZ.out _ _ _ _) rfl) rfl ⟨q2, c2, rfl, ?_, HB2.out.trans (hfr.below HB2.out.size fun k hk hle => by omega)⟩
      refine By.of_own ((HO2.out).keep fun k hk => hfr.block k (World.ownsRow.lt HO2.out k hk).2 ?_) (by show e.val.length ≤ _; omega) (fun k hk => Nat.le_trans hs1 (World.ownsRow.lt HO2.out k hk).1)
      have h1 := (World.ownsRow.lt HO2.out k hk).1
      have h2 := hltA.out
      omega
end Go.Proofs.YtagehnclkneolaaGreatDoor
