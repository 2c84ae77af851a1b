/-
  The walks over codec.Bytes, glacierref1.Bytes and glacierref1.Frame; an append that tells which block alone may have changed.
-/
import Derived.Test.YtjhafhfneedmjaaDoorLawW
import Derived.Maps.AppendAt
namespace Go.Proofs.YtjhafhfneedmjaaDoor
open Go.RowKit

/-- Of what was there in w0 only v0's own block may have changed; v lies in that block, or in a new one, or in none. -/
def Only (w0 : World) (v0 : Value) (w : World) (v : Value) : Prop := w0.grownBy w v0.ownBlock ∧ (v.ownBlock = v0.ownBlock ∨ ∀ k, v.ownBlock = some k → w0.heap.size ≤ k)
theorem Only.refl (w : World) (v : Value) : Only w v w v := ⟨⟨rfl, rfl, rfl, Nat.le_refl _, fun _ _ _ => rfl⟩, .inl rfl⟩
theorem Only.step {w0 w w' : World} {v0 v v' : Value} (h : Only w0 v0 w v) (hg : w.grownBy w' v.ownBlock) (hv : v'.ownBlock = v.ownBlock ∨ v'.ownBlock = some w.heap.size) : Only w0 v0 w' v' := by
  obtain ⟨h1, h2⟩ := h
  refine ⟨⟨hg.os.trans h1.os, hg.tape.trans h1.tape, hg.output.trans h1.output, Nat.le_trans h1.size hg.size, fun k hk hne => ?_⟩, ?_⟩
  · refine (hg.block k (Nat.lt_of_lt_of_le hk h1.size) (fun e => ?_)).trans (h1.block k hk hne)
    rcases h2 with h2 | h2
    · exact hne (e.trans h2)
    · have := h2 k e.symm
      omega
  · rcases hv with hv | hv
    · rw [hv]; exact h2
    · right
      intro k hk
      rw [hv] at hk
      injection hk with hk
      have := h1.size
      omega
theorem Only.alloc {w0 w : World} {v0 v : Value} (h : Only w0 v0 w v) (o : Obj) : Only w0 v0 (w.alloc o) v :=
  ⟨⟨h.1.os, h.1.tape, h.1.output, Nat.le_trans h.1.size (by simp), fun k hk hne => (Below.heap_alloc w o k (Nat.lt_of_lt_of_le hk h.1.size)).trans (h.1.block k hk hne)⟩, h.2⟩
theorem Only.below {w0 w : World} {v0 v : Value} {base : Nat} {l : List UInt8} (h : Only w0 v0 w v) (hown : Own w0 base v0 l) (hb : base ≤ w0.heap.size) : Below base w0 w :=
  (Below.refl base w0).grown h.1 hb hown.block

theorem wpList_append_rd_at {w : World} {ops : Array Oper} {rest : List Oper} {o : Oper} {a : Act} {Q : Exit → Act → World → Prop} (hgd : o.guard = none) (s x : Operand)
    (ho : o.op = .call { callee := .builtin .append, args := #[s, x], argTypes := #[28, 28] })
    (base B : Nat) (v u : Value) (l m : List UInt8) (hs : a.eval s = v) (hown : Own w base v l) (hx : a.eval x = u) (hrd : Rd w B u m)
    (hlen : l.length + m.length ≤ 140737488355328) (hbase : base ≤ w.heap.size)
    (h : ∀ v' w', Own w' base v' (l ++ m) → w.grownBy w' v.ownBlock → (v'.ownBlock = v.ownBlock ∨ v'.ownBlock = some w.heap.size) → wpList Tryd.prog ops Q rest (a.put o.dst v') w') : wpList Tryd.prog ops Q (o :: rest) a w := by
  obtain ⟨i0, hi, hz0, hz1, hz2⟩ := info_parts infoU8
  obtain ⟨p, cap, rfl, hlc, ⟨hl47, hcm, hcn⟩, hat⟩ := hrd
  cases p with
  | none =>
    have hm : m = [] := by
      apply List.eq_nil_of_length_eq_zero
      rcases Nat.eq_zero_or_pos m.length with h0 | h0
      · exact h0
      · obtain ⟨b, off, e, _⟩ := hat h0
        cases e
    subst hm
    have hc0 := hcn rfl
    subst hc0
    refine wpList_append_own_none hgd s x _ ho base 5 i0 1 Tryd.underlying28 hi v _ _ hs hown hx ?_
    exact h v w (by simpa using hown) ⟨rfl, rfl, rfl, Nat.le_refl _, fun _ _ _ => rfl⟩ (.inl rfl)
  | some ad =>
    have hnews : ∀ j u, (bs m)[j]? = some u → w.cell? (ad.add j) = some u := by
      intro j u hu
      have hj : j < m.length := by
        have := (List.getElem?_eq_some_iff.1 hu).1
        simpa [bs] using this
      obtain ⟨b, off, e, _, hc⟩ := hat (by omega)
      injection e with e
      subst e
      rw [Addr.add_mid, hc j hj, ← bs_at m j hj, hu]
    refine wpList_append_own_at w hgd s x _ ho base 5 i0 (.int .u8 0) 1 1 Tryd.underlying28 hi hz0 hz1 hz2 rfl (by decide) v _ _ hs hown ad m.length cap (bs m) hx (by simp [bs_length]) hnews (bs_oneCell m) (by unfold maxLen; omega) (by omega) hbase ?_
    intro v' w' hown' hg _ hat'
    exact h v' w' (Own.of hown' (by simp) (by rw [bs_append])) hg hat'

/-- An operation whose guard says yes is as one without a guard. -/
theorem wpList_unguard {P : Program} {ops : Array Oper} {rest : List Oper} {o : Oper} {a : Act} {w : World} {Q : Exit → Act → World → Prop} (hw : Region.wanted o (yielded ops a.tmps) = true)
    (h : wpList P ops Q ({ o with guard := none } :: rest) a w) : wpList P ops Q (o :: rest) a w := by
  cases o with
  | mk dst op type pos after guard =>
    unfold wpList at h ⊢
    rw [if_pos hw]
    rw [if_pos (by simp [Region.wanted])] at h
    exact h

set_option maxRecDepth 100000 in
set_option maxHeartbeats 400000 in
theorem refNumber_only (v : Value) (l : List UInt8) (n base : Nat) (w : World) (hn : n < 18446744073709551616) (hown : Own w base v l) (hbase : base ≤ w.heap.size) (hlen : l.length ≤ 140737488355300) :
    Calls Tryd.prog 26 #[v, .int .u64 (n : Int)] w fun e w' => ∃ v', e = .returned v' ∧ Own w' base v' (l ++ num n) ∧ Only w v w' v' := by
  have hnl := num_len10 n hn
  have HN0 := Lib.hid hn
  clear hn
  go_enter Tryd.func26, Tryd.ntmps26
  go_wp2
  go_loopw [0, 1] (fun b x wr => ∃ (m : Nat) (pre : List UInt8), x = .int .u64 (m : Int) ∧ m < 18446744073709551616 ∧ pre ++ num m = num n ∧ Own wr base b (l ++ pre) ∧ Only w v wr b) (fun _ x _ => (intOf x).toNat)
  case atStart => exact ⟨n, [], rfl, HN0.out, rfl, by simpa using hown, Only.refl _ _⟩
  case round =>
    obtain ⟨m, pre, rfl, hm, hpre, hown1, hb1⟩ := hrel
    have hpl : pre.length + (num m).length ≤ 10 := by rw [← List.length_append, hpre]; exact hnl
    have hsz := hb1.1.size
    have HP := Lib.hid hpre
    have HM := Lib.hid hm
    have HB := Lib.hid hb1
    clear hpre hm hb1
    by_cases hlt : m < 128
    · have HN := Lib.hid (num_lo m hlt)
      go_wp2_with (at_builtin; refine wpList_append_rd_at rfl _ _ rfl base (wr.heap.size + 1) _ _ _ [UInt8.ofNat m] rfl (hown1.alloc _) rfl (Rd.new wr [UInt8.ofNat m] _ _ (by simp [bs, bv, toNat_of _ (show m < 256 by omega)]) (by simp)) (by simp; omega) (by simp; omega) ?_; intro v1 w1 hown2 hg2 hat2)
      go_ret
      refine ⟨v1, rfl, ?_, (HB.out.alloc _).step hg2 hat2⟩
      rw [← HP.out, HN.out, ← List.append_assoc]
      exact hown2
    · obtain ⟨x, hor, HN⟩ : ∃ x : UInt8, bits .or .u8 ((m : Int) % 256) 128 = (x.toNat : Int) ∧ Hid (num m = x :: num (m / 128)) := ⟨_, or128 m, num_hi m hlt⟩
      go_wp2_with (at_builtin; refine wpList_append_rd_at rfl _ _ rfl base (wr.heap.size + 1) _ _ _ [x] rfl (hown1.alloc _) rfl (Rd.new wr [x] _ _ rfl (by simp)) (by simp; omega) (by simp; omega) ?_; intro v1 w1 hown2 hg2 hat2)
      have HS := Lib.hid ((HB.out.alloc (.cells #[.int .u8 (x.toNat : Int)] 5)).step hg2 hat2)
      clear hg2 hat2
      go_roundw
      case rel =>
        refine ⟨m / 128, pre ++ [x], by go_num, by have := HM.out; omega, by rw [← HP.out, HN.out]; simp, by rw [← List.append_assoc]; exact hown2, HS.out⟩
      case measure => simp [intOf]; omega

set_option maxHeartbeats 400000 in
theorem refBytes_any (v u : Value) (l m : List UInt8) (base base2 : Nat) (w : World) (hown : Own w base v l) (hu : Own w base2 u m) (hne : ∀ k, v.ownBlock = some k → u.ownBlock ≠ some k) (hbase : base ≤ w.heap.size) (hlen : l.length + m.length ≤ 140737488355000) :
    Calls Tryd.prog 28 #[v, u] w fun e w' => ∃ v', e = .returned v' ∧ Own w' base v' (l ++ (num m.length ++ m)) ∧ Below base w w' := by
  have hnl := num_len10 m.length (by omega)
  have HO := Lib.hid hown
  have HU := Lib.hid hu
  have HNe := Lib.hid hne
  obtain ⟨p, cap, rfl, hlc, hl47, hcm, hat⟩ := (hu.rd (by omega)).form
  clear hown hu hat hne
  go_enter Tryd.func28, Tryd.ntmps28
  go_wp2_with fail
  refine (refNumber_only v l m.length base w (by omega) HO.out hbase (by omega)).mono ?_
  rintro e w1 ⟨v1, rfl, hown1, hon1⟩
  have hb1 := hon1.below HO.out hbase
  have HU1 : Hid (Own w1 base2 (.slice p m.length cap) m) := Lib.hid (World.ownsRow.kept HU.out hon1.1 (by
    rcases h : (Value.slice p m.length cap).ownBlock with _ | k
    · exact .inl rfl
    · exact .inr (fun e => HNe.out k e.symm h)))
  have hsz := hb1.size
  clear hon1
  go_wp2_with (at_builtin; refine wpList_append_rd rfl _ _ rfl base w1.heap.size _ _ _ m rfl hown1 rfl (HU1.out.rd (by omega)) (by simp only [List.length_append]; omega) (by omega) ?_; intro v2 w2 hown2 hb2)
  go_ret
  exact ⟨v2, rfl, by rw [← List.append_assoc]; exact hown2, hb1.trans hb2⟩

set_option maxHeartbeats 400000 in
theorem refFrame_any (v u : Value) (l m : List UInt8) (base B : Nat) (w : World) (hown : Own w base v l) (hu : Rd w B u m) (hB : B ≤ base) (hbase : base ≤ w.heap.size) (hlen : l.length + m.length ≤ 140737488355000) :
    Calls Tryd.prog 29 #[v, u] w fun e w' => ∃ v', e = .returned v' ∧ Own w' base v' (l ++ frame m) ∧ Below base w w' := by
  have hnl := num_len10 m.length (by omega)
  have HU := Lib.hid hu
  obtain ⟨p, cap, rfl, hlc, hl47, hcm, hat⟩ := hu.form
  clear hu hat
  go_enter Tryd.func29, Tryd.ntmps29
  go_wp2_with fail
  refine (refNumber_any v l m.length base w (by omega) hown hbase (by omega)).mono ?_
  rintro e w1 ⟨v1, rfl, hown1, hb1⟩
  have HU1 := Lib.hid (HU.out.under hb1 hB)
  have hsz := hb1.size
  clear hown
  go_wp2_with fail
  refine (refSum_any _ m B w1 HU1.out).mono ?_
  rintro e w1' ⟨rfl, rfl⟩
  go_wp2_with fail
  refine (refFour_any v1 _ (crc m) base w1 (crc_lt m) hown1 (by omega) (by simp only [List.length_append]; omega)).mono ?_
  rintro e w2 ⟨v2, rfl, hown2, hb2⟩
  have HU2 := Lib.hid (HU1.out.under hb2 hB)
  have hsz2 := hb2.size
  clear hown1
  go_wp2_with (at_builtin; refine wpList_append_rd rfl _ _ rfl base B _ _ _ m rfl hown2 rfl HU2.out (by simp only [List.length_append, four_length]; omega) (by omega) ?_; intro v3 w3 hown3 hb3)
  go_ret
  refine ⟨v3, rfl, ?_, hb1.trans (hb2.trans hb3)⟩
  unfold frame
  rw [← List.append_assoc, ← List.append_assoc]
  exact hown3

set_option maxHeartbeats 400000 in
theorem bytes_any (v u : Value) (l : List UInt8) (ls : List (List UInt8)) (B B2 : Nat) (w : World) (h : Rd w B v l) (hB : B ≤ w.heap.size) (hu : RdL w B2 u ls) (hB2 : B2 ≤ w.heap.size) (hlen : l.length + flen ls ≤ 140737488355000) :
    Calls Tryd.prog 27 #[v, u] w fun e w' => ∃ v', e = .returned v' ∧ Own w' w.heap.size v' (l ++ (num (flen ls) ++ ls.flatten)) ∧ Below w.heap.size w w' := by
  have hnl := num_len10 (flen ls) (by omega)
  have HR := Lib.hid h
  obtain ⟨p, cap, rfl, hlc, hl47, hcm, hat⟩ := hu
  have HA := Lib.hid hat
  clear hat h
  go_enter Tryd.func27, Tryd.ntmps27
  go_wp2
  go_loop [5, 13] (fun t i => ∃ k : Nat, k ≤ ls.length ∧ t = .int .i64 (flen (ls.take k) : Int) ∧ i = .int .i64 (k : Int)) (fun _ i => ls.length - (intOf i).toNat)
  case atStart => exact ⟨0, by omega, rfl, rfl⟩
  case round =>
    obtain ⟨k, hk, rfl, rfl⟩ := hrel
    by_cases hlt : k < ls.length
    · obtain ⟨b, off, u, rfl, hb, hc, hrd⟩ := HA.out k _ (List.getElem?_eq_getElem hlt)
      have hft := flen_take ls (k + 1)
      have hsn : flen (ls.take (k + 1)) = flen (ls.take k) + ls[k].length := by
        rw [take_snoc ls k _ (List.getElem?_eq_getElem hlt), flen_snoc]
      rw [hsn] at hft
      have HS := Lib.hid hsn
      clear hsn
      generalize ls[k] = m at *
      generalize flen (ls.take k) = R at *
      obtain ⟨p2, cap2, rfl, hlc2, hl472, hcm2, hat2⟩ := hrd.form
      clear hrd hat2
      go_wp2
      go_round
      case rel => exact ⟨k + 1, by omega, by rw [HS.out]; go_num, by go_num⟩
      case measure => simp [intOf]; omega
    · have e : flen (ls.take k) = flen ls := by rw [List.take_of_length_le (by omega)]
      rw [e]
      clear e
      have hap := apart_any v l (10 + flen ls) B w HR.out hB (by omega)
      rw [show (((10 + flen ls : Nat)) : Int) = 10 + (flen ls : Int) from by omega] at hap
      have HAp := hap
      clear hap
      go_wp2_with fail
      refine HAp.mono ?_
      rintro e w1 ⟨v1, rfl, hown1, hb1⟩
      have hsz1 := hb1.size
      clear HAp
      go_wp2_with fail
      refine (appendNumber_any v1 l (flen ls) w.heap.size w1 (by omega) hown1 hsz1 (by omega)).mono ?_
      rintro e w2 ⟨v2, rfl, hown2, hb2⟩
      have hb02 := hb1.trans hb2
      have HO2 := Lib.hid hown2
      clear hown1 hown2 hb1 hb2
      go_wp2_with fail
      go_loopw [8, 31] (fun t i wr => ∃ k : Nat, k ≤ ls.length ∧ i = .int .i64 (k : Int) ∧ Own wr w.heap.size t (l ++ num (flen ls) ++ (ls.take k).flatten) ∧ Below w.heap.size w wr) (fun _ i _ => ls.length - (intOf i).toNat)
      case atStart => exact ⟨0, by omega, rfl, by simpa using HO2.out, hb02⟩
      case round =>
        obtain ⟨k, hk, rfl, hown, hbw⟩ := hrel
        by_cases hlt : k < ls.length
        · obtain ⟨b, off, u, rfl, hb, hc, hrd⟩ := HA.out k _ (List.getElem?_eq_getElem hlt)
          have hc1 : wr.cell? ⟨b, off + k, none⟩ = some u := (below_cells hbw b _ (by omega)).trans hc
          have hrd1 : Rd wr B2 u ls[k] := hrd.under hbw hB2
          have hft := flat_take ls (k + 1)
          have hsn : (ls.take (k + 1)).flatten = (ls.take k).flatten ++ ls[k] := by
            rw [take_snoc ls k _ (List.getElem?_eq_getElem hlt), flatten_snoc]
          rw [hsn, List.length_append, show ls.flatten.length = flen ls from rfl] at hft
          have HS := Lib.hid hsn
          clear hsn hc hrd
          generalize ls[k] = m at *
          generalize (ls.take k).flatten = F at *
          have hsz := hbw.size
          have HR := Lib.hid hrd1
          obtain ⟨p2, cap2, rfl, hlc2, hl472, hcm2, hat2⟩ := hrd1.form
          clear hrd1 hat2
          go_wp2_with (at_builtin; refine wpList_append_rd rfl _ _ rfl w.heap.size B2 _ _ _ m rfl hown rfl HR.out (by simp only [List.length_append]; omega) hsz ?_; intro v4 w4 hown4 hb4)
          go_roundw
          case rel => exact ⟨k + 1, by omega, by go_num, by rw [HS.out, ← List.append_assoc]; exact hown4, hbw.trans hb4⟩
          case measure => simp [intOf]; omega
        · rw [List.take_of_length_le (by omega), List.append_assoc] at hown
          go_wp2_with fail
          go_ret
          exact ⟨_, rfl, hown, hbw⟩
end Go.Proofs.YtjhafhfneedmjaaDoor
