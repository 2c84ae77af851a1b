import Derived.Test.YtagehnclkneolaaGreatDoorGUb
import Derived.Test.YtagehnclkneolaaGreatDoorSuD

/-
  The walk over the reference's May.
-/
namespace Go.Proofs.YtagehnclkneolaaGreatDoor
open Go.RowKit

theorem bit_shr (x : UInt8) (j : Nat) (hj : j < 8) : (!((x &&& (1 <<< UInt8.ofNat j)) == 0)) = decide (x.toNat / 2 ^ j % 2 = 1) := by
  have e1 : (1 <<< UInt8.ofNat j : UInt8).toNat = 2 ^ j := by
    obtain rfl | rfl | rfl | rfl | rfl | rfl | rfl | rfl : j = 0 ∨ j = 1 ∨ j = 2 ∨ j = 3 ∨ j = 4 ∨ j = 5 ∨ j = 6 ∨ j = 7 := by omega
    all_goals rfl
  have e2 : (x &&& (1 <<< UInt8.ofNat j)).toNat = x.toNat &&& 2 ^ j := by rw [UInt8.toNat_and, e1]
  have e3 : x.toNat.testBit j = decide (x.toNat / 2 ^ j % 2 = 1) := Nat.testBit_eq_decide_div_mod_eq
  rw [← e3]
  cases hb : x.toNat.testBit j
  · have h0 : x.toNat &&& 2 ^ j = 0 := by
      apply Nat.eq_of_testBit_eq
      intro i
      rw [Nat.testBit_and, Nat.testBit_two_pow, Nat.zero_testBit]
      by_cases h : j = i
      · subst h; rw [hb]; rfl
      · simp [h]
    have : x &&& (1 <<< UInt8.ofNat j) = 0 := UInt8.toNat_inj.1 (by rw [e2, h0]; rfl)
    rw [this]
    rfl
  · have : x &&& (1 <<< UInt8.ofNat j) ≠ 0 := fun h => by
      rw [h] at e2
      have h1 := congrArg (fun n => n.testBit j) e2
      simp only [Nat.testBit_and, Nat.testBit_two_pow_self, hb] at h1
      simp at h1
    simp [this]
theorem and_one (n : Nat) (hn : n < 256) : bits .and .u8 (n : Int) 1 = ((n % 2 : Nat) : Int) := by
  have h := u8_and_nat n 1 hn (by decide)
  rw [Nat.and_one_is_mod] at h
  exact h

set_option maxRecDepth 100000 in
set_option maxHeartbeats 1000000 in
theorem refMay_any (w : World) (B : Nat) (q : Option Addr) (c : Nat) (f key : List UInt8) (h : Rd w B (.slice q f.length c) f) (hB : B ≤ w.heap.size) (h0 : 8 ≤ f.length) (hf : f.length ≤ 1099511627776) (hk : key.length ≤ 140737488354000) :
    Calls Tryz.prog 14 #[.slice q f.length c, .string ⟨key.toArray⟩] w fun x w' => x = .returned (.bool (mayK f key 4)) ∧ Below w.heap.size w w' := by
  have HR := Lib.hid h
  have HC := Lib.hid (refSpots4 w key (8 * f.length) (by omega) (by omega) hk)
  have hsl : ∀ k, spotK key (8 * f.length) k < 8 * f.length := fun k => spotK_lt key _ k (by omega)
  have HSl := Lib.hid hsl
  have HNo := Lib.hid (mayK_no f key 4)
  have HSu : Hid (∀ j, mayK f key (j + 1) = (mayK f key j && bitB f (spotK key (8 * f.length) j))) := Lib.hid (fun j => rfl)
  have HZ : Hid (mayK f key 0 = true) := Lib.hid rfl
  have hw8 : IntKind.i64.wrap (8 * (f.length : Int)) = ((8 * f.length : Nat) : Int) := by rw [IntWalk.i64_in _ (by omega)]; omega
  obtain ⟨m8, hm8⟩ : ∃ m8, 8 * f.length = m8 := ⟨_, rfl⟩
  rw [hm8] at HC HSl HNo HSu hw8 hsl
  have HM8 := Lib.hid hm8
  obtain ⟨sp, hsp⟩ : ∃ sp, spotK key m8 = sp := ⟨_, rfl⟩
  rw [hsp] at HC HSl HNo HSu
  generalize mayK f key = mk at *
  clear h hk hsl hsp hm8
  go_enter Tryz.func14, Tryz.ntmps14
  go_wp2_with fail
  refine HC.out.mono ?_
  rintro r w1 ⟨rfl, hb1⟩
  obtain ⟨X, hX⟩ : ∃ X, w1.alloc (.cells #[.int .i64 (sp 0 : Int), .int .i64 (sp 1 : Int), .int .i64 (sp 2 : Int), .int .i64 (sp 3 : Int)] 83) = X := ⟨_, rfl⟩
  have hbX : Below w1.heap.size w1 X := by rw [← hX]; exact below_alloc _ _
  have hXa : X.heap[w1.heap.size]? = some (.cells #[.int .i64 (sp 0 : Int), .int .i64 (sp 1 : Int), .int .i64 (sp 2 : Int), .int .i64 (sp 3 : Int)] 83 (0, 0)) := by rw [← hX]; exact heap_alloc_new w1 _
  have HBX : Hid (Below w.heap.size w X) := Lib.hid (hb1.trans (hbX.mono hb1.size))
  have HR1 := Lib.hid (HR.out.under HBX.out hB)
  have HAt : Hid (∀ k, k < 4 → X.cell? ⟨w1.heap.size, k, none⟩ = some (.int .i64 (sp k : Int))) := Lib.hid (fun k hk => by
    obtain rfl | rfl | rfl | rfl : k = 0 ∨ k = 1 ∨ k = 2 ∨ k = 3 := by omega
    all_goals exact cell_of hXa rfl)
  clear hb1 hbX hXa hw8
  go_wp2_with fail
  go_loopw [6] (fun i wr => ∃ k m : Nat, k ≤ 4 ∧ i = .int .i64 (k : Int) ∧ mk k = true ∧ wr = X.drewN m) (fun i _ => 4 - (intOf i).toNat)
  case atStart => exact ⟨0, 0, by omega, rfl, HZ.out, rfl⟩
  case round =>
    obtain ⟨k, m, hk, rfl, hm, rfl⟩ := hrel
    have HM := Lib.hid hm
    clear hm
    by_cases hlt : k < 4
    · have d1 : decide ((k : Int) < 4) = true := decide_eq_true (by omega)
      have a0 : X.cell? ⟨w1.heap.size, k, none⟩ = some (.int .i64 (sp k : Int)) := HAt.out k hlt
      have hs1 : sp k < 8 * f.length := by have := HSl.out k; have := HM8.out; omega
      have HSu1 := Lib.hid (HSu.out k)
      have HNo1 := Lib.hid (HNo.out k hlt)
      generalize sp k = s at *
      obtain ⟨b, off, x, rfl, hbB, hx, hc⟩ := HR1.out.form_at (k := s / 8) (by omega)
      have c0 : X.cell? ⟨b, off + s / 8, none⟩ = some (.int .u8 (x.toNat : Int)) := hc
      have hi1 : ((s : Int) / 8) < (f.length : Int) := by omega
      have hi2 : (0 : Int) ≤ (s : Int) / 8 := by omega
      have hi3 : ((s : Int) / 8).toNat = s / 8 := by omega
      have hix := fun W => ixi W w1.heap.size k hlt
      have hwu : IntKind.u64.wrap ((s : Int) % 8) = (s : Int) % 8 := IntWalk.u64_in _ (by omega)
      have hgd : f.getD (s / 8) 0 = x := by rw [List.getD_eq_getElem?_getD, hx]; rfl
      have hx8 := x.toNat_lt
      obtain ⟨y, hy⟩ : ∃ y, x.toNat / 2 ^ (s % 8) = y := ⟨_, rfl⟩
      have hy8 : y < 256 := by rw [← hy]; exact Nat.lt_of_le_of_lt (Nat.div_le_self _ _) hx8
      have hAnd := and_one y hy8
      have HBt : Hid (bitB f s = decide (y % 2 = 1)) := Lib.hid (by unfold bitB; rw [hgd, bit_shr x (s % 8) (by omega), hy])
      have hyi : (x.toNat : Int) / 2 ^ (s % 8) = (y : Int) := by rw [← hy]; simp
      clear hx hgd hy hc
      rcases Nat.eq_zero_or_pos (y % 2) with hy0 | hy0
      · have HN2 := Lib.hid (HNo1.out (by rw [HBt.out, hy0]; rfl))
        rw [hy0] at hAnd
        go_wp2_with fail
        go_quiet (fail)
        go_wp2_with fail
        go_ret
        exact ⟨by rw [HN2.out]; rfl, below_drewN (below_drewN HBX.out _) _⟩
      · have hy1 : y % 2 = 1 := by omega
        rw [hy1] at hAnd
        have HN2 : Hid (mk (k + 1) = true) := Lib.hid (by rw [HSu1.out, HM.out, HBt.out, hy1]; rfl)
        go_wp2_with fail
        go_quiet (fail)
        go_wp2_with fail
        go_roundw
        case rel => exact ⟨k + 1, _, by omega, by go_num, HN2.out, rfl⟩
        case measure => simp [intOf]; omega
    · obtain rfl : k = 4 := by omega
      go_wp2_with fail
      go_ret
      exact ⟨by rw [HM.out]; rfl, below_drewN HBX.out _⟩
end Go.Proofs.YtagehnclkneolaaGreatDoor

/-
  What a table tells of a key, plainly: the newest version; the place from which on a key's versions stand.
-/
namespace Go.Proofs.YtagehnclkneolaaGreatDoor

theorem newest_plc' {L : List Ent} (hs : SrtE L) (s : List UInt8) (up : Nat) (g : Bool) (v : List UInt8) : newestE L s up = match L[plcE ⟨s, up, g, v⟩ L]? with | some f => if f.key = s then some f else none | none => none := by
  obtain ⟨P, hP⟩ : ∃ P, plcE ⟨s, up, g, v⟩ L = P := ⟨_, rfl⟩
  rw [hP]
  have hlo : ∀ j f, j < P → L[j]? = some f → (f.key == s && decide (f.seq ≤ up)) = false := fun j f hj hf => by
    have h1 := lessE_iff.1 (plcE_lo ⟨s, up, g, v⟩ L (by rw [hP]; exact hj) hf)
    rcases h1 with h1 | ⟨_, h1⟩
    · have := lessB_ne h1
      simp [this]
    · have : ¬ f.seq ≤ up := by
        have h2 : up < f.seq := h1
        omega
      simp [this]
  cases hf : L[P]? with
  | none =>
    refine newest_none.2 fun e he => ?_
    obtain ⟨j, hj, rfl⟩ := List.getElem_of_mem he
    have := List.getElem?_eq_none_iff.1 hf
    exact hlo j _ (by omega) (List.getElem?_eq_getElem hj)
  | some f =>
    have h1 := plcE_hi ⟨s, up, g, v⟩ L (f := f) (by rw [hP]; exact hf)
    have h2 : ¬ (Op.bytesLess f.key s = true ∨ (f.key = s ∧ up < f.seq)) := fun h => by rw [lessE_iff.2 h] at h1; cases h1
    simp only
    by_cases hk : f.key = s
    · rw [if_pos hk]
      refine newest_is hf hlo ?_
      have : f.seq ≤ up := by
        rcases Nat.lt_or_ge up f.seq with h | h
        · exact absurd (.inr ⟨hk, h⟩) h2
        · exact h
      simp [hk, this]
    · rw [if_neg hk]
      have hgt : Op.bytesLess s f.key = true := by
        rcases lessB_total hk with h | h
        · exact absurd (.inl h) h2
        · exact h
      refine newest_none.2 fun e he => ?_
      obtain ⟨j, hj, rfl⟩ := List.getElem_of_mem he
      rcases Nat.lt_trichotomy j P with h | h | h
      · exact hlo j _ h (List.getElem?_eq_getElem hj)
      · subst h
        rw [List.getElem?_eq_getElem hj] at hf
        rw [Option.some.inj hf]
        simp [hk]
      · have hPl : P < L.length := by omega
        have h3 := srt_at hs hj h
        have e1 : L[P] = f := by
          rw [List.getElem?_eq_getElem hPl] at hf
          exact Option.some.inj hf
        rw [e1] at h3
        have : L[j].key ≠ s := fun e => by
          rcases lessE_iff.1 h3 with h4 | ⟨h4, _⟩
          · have := lessB_trans hgt h4
            rw [e, lessB_irrefl] at this
            cases this
          · exact hk (h4.trans e)
        simp [this]


theorem get_newest {L : List Ent} (hs : SrtE L) (key : List UInt8) (up : Nat) : getE L key up = newestE L key up := by
  rw [newest_plc' hs key up false []]
  unfold getE
  have h : L[plcE ⟨key, up, false, []⟩ L]? = (L.drop (plcE ⟨key, up, false, []⟩ L))[0]? := by rw [List.getElem?_drop, Nat.add_zero]
  rw [h]
  cases L.drop (plcE ⟨key, up, false, []⟩ L) with
  | nil => rfl
  | cons e r => simp
theorem plc_from (key : List UInt8) (L : List Ent) (hq : ∀ e ∈ L, e.seq < 18446744073709551616) : plcE ⟨key, 18446744073709551615, false, []⟩ L = fromE key L := by
  have h : ∀ f : Ent, f.seq < 18446744073709551616 → lessE f ⟨key, 18446744073709551615, false, []⟩ = Op.bytesLess f.key key := fun f hf => by
    simp [lessE, show ¬ (18446744073709551615 < f.seq) by omega]
  unfold plcE fromE
  congr 1
  induction L with
  | nil => rfl
  | cons a r ih =>
    have h1 := h a (hq a (by simp))
    have h2 := ih fun e he => hq e (by simp [he])
    simp only [List.takeWhile_cons, h1, h2]
end Go.Proofs.YtagehnclkneolaaGreatDoor

/-
  What the reference's Open goes on with, from block to block.
-/
namespace Go.Proofs.YtagehnclkneolaaGreatDoor
open Go.RowKit

structure RoJ (w : World) (b : List UInt8) (one tb : Nat) (wr : World) (a : Nat) (L : List Ent) (bks : List TBk) (pe : Option Addr) (ce : Nat) (us : List Value) (pk : Option Addr) (ck : Nat) : Prop where
  tbl : wr.heap[tb]? = some (.cells #[.slice pe L.length ce, .slice pk bks.length ck, .slice none 0 0] 46 (0, 0))
  en : EnR wr w.heap.size (.slice pe L.length ce) L us
  row : wr.ownsRow w.heap.size 76 3 (.slice pk bks.length ck) bks.length (cellsBk bks)
  tbg : w.heap.size ≤ tb
  bel : Below w.heap.size w wr
  op : opA (b.take one) 0 [] [] = opA ((b.take one).drop a) a L bks
  le : a ≤ one
  rt : rightE L = true
  wg : wgt L ≤ 31 * a
  sq : ∀ e ∈ L, e.seq < 18446744073709551616
  ro : (idxR bks).length ≤ 31 * a
  nb : bks.length ≤ a
  bk : ∀ x ∈ bks, x.at_ + x.len ≤ a

theorem RoJ.step {w wr w1 W w3 : World} {b : List UInt8} {one tb a n : Nat} {L es : List Ent} {bks : List TBk} {pe pe' pk pk' : Option Addr} {ce ce' ck ck' : Nat} {us us' : List Value} (h : RoJ w b one tb wr a L bks pe ce us pk ck)
    (hlt : a < one) (hol : one ≤ b.length) (hb40 : b.length ≤ 4294967296) (hbp : blkP ((b.take one).drop a) L = some (n, es))
    (he : EnR w1 w.heap.size (.slice pe' (L ++ es).length ce') (L ++ es) us') (hf : Fr (fun k => (Value.slice pe L.length ce).ownBlock = some k) wr w1)
    (hW : Below w1.heap.size (w1.setCell ⟨tb, 0, none⟩ (.slice pe' (L ++ es).length ce')) W)
    (hrow : w3.ownsRow w.heap.size 76 3 (.slice pk' (bks.length + 1) ck') (bks.length + 1) (cellsBk bks ++ bkV ⟨a, n, hdK es⟩)) (hg : W.grownBy w3 (Value.slice pk bks.length ck).ownBlock) :
    RoJ w b one tb (w3.setCell ⟨tb, 1, none⟩ (.slice pk' (bks.length + 1) ck')) (a + n) (L ++ es) (bks ++ [⟨a, n, hdK es⟩]) pe' ce' us' pk' ck' ∧ 0 < n := by
  obtain ⟨n5, nl, hne, hrt, hwg, hsq⟩ := blkP_some hbp
  rw [List.length_drop, List.length_take, Nat.min_eq_left hol] at nl
  have hr0 : (b.take one).drop a ≠ [] := by
    intro hn
    have := congrArg List.length hn
    rw [List.length_drop, List.length_take, Nat.min_eq_left hol, List.length_nil] at this
    omega
  have hk := hdK_len hne
  have hrw : (rowB (hdK es) a n).length ≤ 30 + (hdK es).length := by
    have n1 := num_len10 (hdK es).length (by omega)
    have n2 := num_len10 a (by omega)
    have n3 := num_len10 n (by omega)
    simp only [rowB, bytB, List.length_append]
    omega
  -- the table's block from world to world
  have ht1 : w1.heap[tb]? = _ := hf.keep h.tbl (h.en.ne_kind h.tbl (by decide) (by decide)).1
  have ht2 := setCell_same (off := 0) ht1 (.slice pe' (L ++ es).length ce')
  have hs2 : (w1.setCell ⟨tb, 0, none⟩ (.slice pe' (L ++ es).length ce')).heap.size = w1.heap.size := by simp [World.setCell]
  have htW : W.heap[tb]? = _ := (hW.block _ (block_lt ht1)).trans ht2
  have hkt : (Value.slice pk bks.length ck).ownBlock ≠ some tb := fun e => by
    obtain ⟨cur, hc⟩ := row_heap h.row e
    exact kind_ne h.tbl hc (by decide) rfl
  have ht3 : w3.heap[tb]? = _ := (hg.block _ (block_lt htW) (fun e => hkt e.symm)).trans htW
  have ht4 := setCell_same (off := 1) ht3 (.slice pk' (bks.length + 1) ck')
  -- blocks of other kinds
  have hne1 := he.ne_kind ht1 (by decide) (by decide)
  have hkr : ∀ k, (Value.slice pk bks.length ck).ownBlock = some k → ∃ cur, wr.heap[k]? = some (.cells cur 76 (0, 0)) := fun k hk => row_heap h.row hk
  have hk1 : ∀ k, (Value.slice pk bks.length ck).ownBlock = some k → ∃ cur, w1.heap[k]? = some (.cells cur 76 (0, 0)) := fun k hk => by
    obtain ⟨cur, hc⟩ := hkr k hk
    exact ⟨cur, hf.keep hc (h.en.ne_kind hc (by decide) (by decide)).1⟩
  have hF2 : Fr (fun k => k = tb) w1 W := (Fr.setCell (fun k => k = tb) w1 (p := ⟨tb, 0, none⟩) rfl _).then (Fr.of_new (by rw [hs2]; exact hW : Below (w1.setCell ⟨tb, 0, none⟩ (.slice pe' (L ++ es).length ce')).heap.size _ W) _)
  have hF3 : Fr (fun k => k = tb ∨ (Value.slice pk bks.length ck).ownBlock = some k) w1 (w3.setCell ⟨tb, 1, none⟩ (.slice pk' (bks.length + 1) ck')) :=
    Fr.setCell_ (S := fun k => k = tb ∨ (Value.slice pk bks.length ck).ownBlock = some k) ((hF2.mono fun k _ e => .inl e).then (Fr.grown hg (fun k hk => .inr hk))) (p := ⟨tb, 1, none⟩) (.inl rfl) _
  have hlen : (bks ++ [(⟨a, n, hdK es⟩ : TBk)]).length = bks.length + 1 := by simp
  refine ⟨⟨?_, ?_, ?_, h.tbg, ?_, ?_, by omega, hrt, ?_, ?_, ?_, ?_, ?_⟩, by omega⟩
  · rw [hlen]
    simpa using ht4
  · refine he.step hF3 (fun k hk e => ?_) (fun u hu k hk e => ?_)
    · rcases e with rfl | e
      · exact hne1.1 hk
      · obtain ⟨cur, hc⟩ := hk1 k e
        exact (he.ne_kind hc (by decide) (by decide)).1 hk
    · rcases e with rfl | e
      · exact hne1.2 u hu hk
      · obtain ⟨cur, hc⟩ := hk1 k e
        exact (he.ne_kind hc (by decide) (by decide)).2 u hu hk
  · rw [hlen]
    have e : cellsBk (bks ++ [(⟨a, n, hdK es⟩ : TBk)]) = cellsBk bks ++ bkV ⟨a, n, hdK es⟩ := by simp [cellsBk]
    rw [e]
    refine row_keep hrow fun k hk => setCell_other (fun e => ?_) _
    obtain ⟨cur, hc⟩ := row_heap hrow hk
    subst e
    exact kind_ne ht3 hc (by decide) rfl
  · refine (h.bel.trans (hf.below h.bel.size fun k hk e => by have := row_low h.en.row k e; omega)).trans (hF3.below (Nat.le_trans h.bel.size hf.size) fun k hk e => ?_)
    rcases e with rfl | e
    · have := h.tbg; omega
    · have := row_low h.row k e; omega
  · rw [h.op, opA_some hr0 hbp, List.drop_drop]
  · rw [wgt_append]
    have := h.wg
    omega
  · intro e he2
    rcases List.mem_append.1 he2 with he2 | he2
    · exact h.sq e he2
    · exact hsq e he2
  · rw [idxR_snoc, List.length_append]
    have := h.ro
    simp only
    omega
  · rw [List.length_append, List.length_singleton]
    have := h.nb
    omega
  · intro x hx
    rcases List.mem_append.1 hx with hx | hx
    · have := h.bk x hx; omega
    · obtain rfl : x = ⟨a, n, hdK es⟩ := by simpa using hx
      simp only
      omega
end Go.Proofs.YtagehnclkneolaaGreatDoor
