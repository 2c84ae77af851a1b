/-
  What Open reads: the segments from first on, up to a gap or to the first place that can't be read.
-/
import Derived.Test.YtlbfgkocpjlamaaGreatDoorWlY
import Derived.Test.YtlbfgkocpjlamaaGreatDoorWD
namespace Go.Proofs.YtlbfgkocpjlamaaGreatDoor
open Go.RowKit

def toldOf (cs : List (List UInt8)) : List (List UInt8) := (cs.map fun c => (rdFrames c).1).flatten
theorem told_snoc (cs : List (List UInt8)) (k : Nat) (h : k < cs.length) : toldOf (cs.take (k + 1)) = toldOf (cs.take k) ++ (rdFrames cs[k]).1 := by
  unfold toldOf
  rw [take_snoc cs k _ (List.getElem?_eq_getElem h), List.map_append, List.flatten_append]
  simp
theorem told_take (cs : List (List UInt8)) (k : Nat) : (toldOf (cs.take k)).length ≤ (toldOf cs).length := by
  have e : toldOf cs = toldOf (cs.take k) ++ toldOf (cs.drop k) := by
    unfold toldOf
    rw [← List.flatten_append, ← List.map_append, List.take_append_drop]
  rw [e, List.length_append]
  omega
/-- The disk behind: the last segment is laid anew without what can't be read. -/
def finD (D : Dsk) (nm : List UInt8) (first : Nat) (cs : List (List UInt8)) : Dsk := match cs.getLast? with
  | some c => if (rdFrames c).2.2 = 0 then D else { D with files := put ⟨segName nm (first + cs.length - 1), c.take (rdFrames c).2.1, (rdFrames c).2.1⟩ D.files }
  | none => D
def finM (m0 first : Nat) (cs : List (List UInt8)) : Nat := if cs.length = 0 then m0 else first + cs.length - 1
theorem finD_ok {D : Dsk} {nm : List UInt8} {first : Nat} {cs : List (List UInt8)} (h : ∀ c, cs.getLast? = some c → (rdFrames c).2.2 = 0) : finD D nm first cs = D := by
  unfold finD
  split
  · rename_i c hc
    rw [if_pos (h c hc)]
  · rfl
theorem finD_torn {D : Dsk} {nm : List UInt8} {first : Nat} {cs : List (List UInt8)} {c : List UInt8} (h : cs.getLast? = some c) (he : (rdFrames c).2.2 ≠ 0) : finD D nm first cs = { D with files := put ⟨segName nm (first + cs.length - 1), c.take (rdFrames c).2.1, (rdFrames c).2.1⟩ D.files } := by
  unfold finD
  rw [h]
  simp only
  rw [if_neg he]
/-- The log's own block has another last segment. -/
theorem Lg.set {w w1 : World} {S S1 : Nat → Prop} {lb db n : Nat} {nm : List UInt8} {D1 : Dsk} (h : Lg w S lb db n nm S1 w1 D1) (hlb : w.heap.size ≤ lb) (h3 : 3 ≤ w.heap.size) (m : Nat) : Lg w S lb db m nm S1 (w1.setCell ⟨lb, 2, none⟩ (.int .i64 (m : Int))) D1 := by
  have hfs := Fr.setCell (fun k => k = lb) w1 (p := ⟨lb, 2, none⟩) rfl (.int .i64 (m : Int))
  exact ⟨h.log.set m, h.dn.same hfs fun k _ hk e => h.out (e ▸ hk), h.tb.fr hfs fun k hk => by (have : k = lb := hk); omega, h.fr.trans (hfs.mono fun k _ hk => .inr (by (have : k = lb := hk); omega)), h.nx, h.out⟩
/-- A row of the call's own has turned. -/
theorem Lg.row {w w1 w2 : World} {S S1 : Nat → Prop} {lb db n : Nat} {nm : List UInt8} {D1 : Dsk} (h : Lg w S lb db n nm S1 w1 D1) (h3 : 3 ≤ w.heap.size) {row : Option Nat} (hg : w1.grownBy w2 row) (hr : ∀ k, row = some k → w.heap.size ≤ k ∧ ¬ S1 k ∧ k ≠ lb) : Lg w S lb db n nm S1 w2 D1 := by
  have hf : Fr (fun k => row = some k) w1 w2 := Fr.grown hg fun _ e => e
  exact ⟨h.log.fr hf fun e => (hr _ e).2.2 rfl, h.dn.same hf fun k _ hk e => (hr k e).2.1 hk, h.tb.fr hf fun k e => Nat.le_trans h3 (hr k e).1, h.fr.trans (hf.mono fun k _ e => .inr (hr k e).1), h.nx, h.out⟩

set_option maxRecDepth 100000 in
set_option maxHeartbeats 1000000 in
theorem replay_any (W w : World) (S S1 : Nat → Prop) (lb db m0 : Nat) (nm : List UInt8) (D : Dsk) (h : Lg W S lb db m0 nm S1 w D) (hlb : W.heap.size ≤ lb) (hW3 : 3 ≤ W.heap.size) (first : Nat) (cs : List (List UInt8)) (hnm : isLog nm = true)
    (hseg : ∀ k c, cs[k]? = some c → ∃ y, look (segName nm (first + k)) D.files = some ⟨segName nm (first + k), c, y⟩) (hend : look (segName nm (first + cs.length)) D.files = none) (hmax : first + cs.length ≤ 999999)
    (hok : ∀ k c, k + 1 < cs.length → cs[k]? = some c → (rdFrames c).2.2 = 0) (hsz : ∀ c ∈ cs, c.length ≤ 1073741824) (hroom : ∀ c, cs.getLast? = some c → used D.files + (rdFrames c).2.1 ≤ D.size) (hrd : ∀ c ∈ cs, (rdFrames c).2.1 ≤ c.length)
    (htmp : look (tmpName nm) D.files = none) (hcnt : D.files.length ≤ 1099511627776) (hmany : (toldOf cs).length ≤ 1099511627776) :
    Calls Tryz.prog 23 #[.pointer (some ⟨lb, 0, none⟩), .int .i64 (first : Int)] w fun e w' => ∃ v, e = .returned (.tuple #[v, .int .i64 0]) ∧ ∃ S', RowW w' S' W.heap.size v (toldOf cs) ∧
      Lg W S lb db (finM m0 first cs) nm S' w' (finD D nm first cs) := by
  have hnl := isLog_len hnm
  have HH := Lib.hid h
  have HSeg := Lib.hid hseg
  have HEnd := Lib.hid hend
  have HOk := Lib.hid hok
  have HSz := Lib.hid hsz
  have HRoom := Lib.hid hroom
  have HRd := Lib.hid hrd
  have HTmp := Lib.hid htmp
  have hsw := h.size
  clear h hseg hend hok hsz hroom hrd htmp
  go_enter Tryz.func23, Tryz.ntmps23
  go_wp2_with fail
  go_loopw [6, 7] (fun v i wr => ∃ (k mk : Nat), k ≤ cs.length ∧ i = .int .i64 ((first + k : Nat) : Int) ∧ Hid (RowW wr (fun j => S1 j ∨ j = lb) W.heap.size v (toldOf (cs.take k)) ∧ Lg W S lb db mk nm S1 wr D ∧ mk = finM m0 first (cs.take k) ∧ ∀ c, 0 < k → cs[k - 1]? = some c → (rdFrames c).2.2 = 0)) (fun _ i _ => first + cs.length + 1 - (intOf i).toNat)
  case atStart => exact ⟨0, m0, by omega, by simp, Lib.hid ⟨RowW.nil _ _ _, HH.out, rfl, fun c hc => by omega⟩⟩
  case round =>
    obtain ⟨k, mk, hk, rfl, HI⟩ := hrel
    have c0 := HI.out.2.1.log.c0
    have hlr := HI.out.2.1.log.lt
    have C0 := Lib.hid c0
    have HFile : ∀ w1, Hid (Below wr.heap.size wr w1) → Calls Tryz.prog 26 #[.pointer (some ⟨lb, 0, none⟩), .int .i64 ((first + k : Nat) : Int)] w1 fun e w' => e = .returned (.string ⟨(segName nm (first + k)).toArray⟩) ∧ Hid (Below wr.heap.size wr w') := fun w1 hb =>
      (file_any w1 lb db nm mk (HI.out.2.1.log.below hb.out) (first + k) (by omega) (by omega) (HI.out.2.1.tb.below hb.out).pow).mono fun e w' ⟨he, h2⟩ => ⟨he, Lib.hid (hb.out.trans (h2.mono hb.out.size))⟩
    have H0 : Hid (Below wr.heap.size wr wr.drew) := Lib.hid (Below.refl _ _).drew
    have hmx : (segName nm (first + k)).length ≤ maxLen := by
      rw [seg_length]
      unfold maxLen
      omega
    by_cases hlt : k < cs.length
    · obtain ⟨y, hy⟩ := HSeg.out k cs[k] (List.getElem?_eq_getElem hlt)
      have hcl := HSz.out cs[k] (List.getElem_mem hlt)
      have hcr := HRd.out cs[k] (List.getElem_mem hlt)
      have HS := Lib.hid (told_snoc cs k hlt)
      have hlen := Lib.hid (Nat.le_trans (told_take cs (k + 1)) hmany)
      have HOkc : Hid (k + 1 < cs.length → (rdFrames cs[k]).2.2 = 0) := Lib.hid fun h1 => HOk.out k _ h1 (List.getElem?_eq_getElem hlt)
      have HLast : Hid (k + 1 = cs.length → cs.getLast? = some cs[k]) := Lib.hid fun h1 => by
        rw [List.getLast?_eq_getElem?, show cs.length - 1 = k by omega]
        exact List.getElem?_eq_getElem hlt
      have HAt : Hid (∀ c, cs[k + 1 - 1]? = some c → c = cs[k]) := Lib.hid fun c h1 => by
        rw [Nat.add_sub_cancel, List.getElem?_eq_getElem hlt] at h1
        exact (Option.some.inj h1).symm
      generalize cs[k] = c at *
      have HRead : ∀ w1, Hid (Below wr.heap.size wr w1) → Calls Tryz.prog 15 #[.pointer (some ⟨db, 0, none⟩), .string ⟨(segName nm (first + k)).toArray⟩] w1 fun e w' => ∃ p cap, e = .returned (.tuple #[.slice p c.length cap, .int .i64 0]) ∧ Hid (Own w' wr.heap.size (.slice p c.length cap) c ∧ Below wr.heap.size wr w') := fun w1 hb =>
        (read_some w1 S1 db D (HI.out.2.1.dn.below hb.out).dk _ hmx _ hy).mono fun e w' ⟨v, he, ho, hbx⟩ => by
          obtain ⟨p, cap, rfl, _⟩ := ho.form
          exact ⟨p, cap, he, Lib.hid ⟨ho.more hb.out.size, hb.out.trans (hbx.mono hb.out.size)⟩⟩
      have HNames : Hid (segName nm (first + k) = segName nm (first + k)) := Lib.hid rfl
      clear hy hmx HNames
      generalize hsn : segName nm (first + k) = sn at *
      have HSN := Lib.hid hsn
      clear hsn
      have hf9 : ((first + k : Nat) : Int) ≤ 999999 := by omega
      have hf0 : (0 : Int) ≤ ((first + k : Nat) : Int) := by omega
      have hF1 : Hid (((first + (k + 1) : Nat) : Int) = ((first + k : Nat) : Int) + 1) := Lib.hid (by omega)
      have hmeas : Hid (first + cs.length + 1 - (intOf (.int .i64 (((first + k : Nat) : Int) + 1))).toNat < first + cs.length + 1 - (intOf (.int .i64 ((first + k : Nat) : Int))).toNat) := Lib.hid (by simp only [intOf]; omega)
      go_upto_region 5 with (fail)
      go_cut [8, 9] from 14 to 52 (fun a b wx => ∃ p cap, a = .slice p c.length cap ∧ b = .int .i64 0 ∧ Hid (Own wx wr.heap.size (.slice p c.length cap) c ∧ Below wr.heap.size wr wx))
      case first =>
        go_region_with (first
          | (go_at_call 26
             refine (HFile _ (by assumption)).mono ?_
             rintro e wg ⟨rfl, HB4⟩
             have c0 := (below_cells HB4.out lb 0 hlr).trans C0.out)
          | (go_at_call 15
             refine (HRead _ (by assumption)).mono ?_
             rintro e wz ⟨p, cap, rfl, HZ⟩))
        all_goals
          go_wp2_with fail
          go_meet
          exact ⟨p, cap, rfl, rfl, HZ⟩
      case rest =>
        obtain ⟨p, cap, rfl, rfl, HZ⟩ := hcut
        have hL6 := HI.out.2.1.below HZ.out.2
        have c2 := hL6.log.c2
        have z2 := hL6.log.fz 2
        have hX := hL6.set hlb hW3 (first + k)
        have hfs := Fr.setCell (fun j => j = lb) wc (p := ⟨lb, 2, none⟩) rfl (.int .i64 ((first + k : Nat) : Int))
        have hRX := (HI.out.1.below HZ.out.2).step (hfs.mono fun j _ hj => .inr hj) (S' := fun j => S1 j ∨ j = lb) fun j hj => .inl hj
        have hbo : ∀ j, (Value.slice p c.length cap).ownBlock = some j → wr.heap.size ≤ j := HZ.out.1.block
        have hOX : Own (wc.setCell ⟨lb, 2, none⟩ (.int .i64 ((first + k : Nat) : Int))) wr.heap.size (.slice p c.length cap) c := HZ.out.1.keep fun j hj => setCell_other (by have := hbo j hj; omega) _
        have hzX : wr.heap.size ≤ (wc.setCell ⟨lb, 2, none⟩ (.int .i64 ((first + k : Nat) : Int))).heap.size := Nat.le_trans HZ.out.2.size hfs.size
        generalize hXe : wc.setCell ⟨lb, 2, none⟩ (.int .i64 ((first + k : Nat) : Int)) = X at *
        have HRF := Lib.hid (readFrames_new (.slice p c.length cap) c X.heap.size X (hOX.rd (by omega)) (Nat.le_refl _) hX.tb.tabs (by omega))
        have HLX := Lib.hid hX
        have HRX := Lib.hid hRX
        have HOX := Lib.hid hOX
        subst hXe
        clear hL6 hX hRX hOX hfs hbo
        go_wp2_with (go_at_call 39; refine HRF.out.mono ?_; rintro e w4 ⟨v4, rfl, ho4, hb4⟩; refine Hid.out ?_)
        have hL4 := HLX.out.below hb4
        have hR4 := HRX.out.below hb4
        have hO4 := HOX.out.after hb4
        obtain ⟨q4, cp4, rfl, _⟩ := ho4.shape
        have hz4 := hb4.size
        generalize hXs : (wc.setCell ⟨lb, 2, none⟩ (.int .i64 ((first + k : Nat) : Int))).heap.size = xs at *
        have hlx : lb < xs := by
          rw [← hXs]
          exact HLX.out.log.lt
        have hux : ∀ j, u6.ownBlock = some j → j < xs := fun j hj => by
          rw [← hXs]
          exact (HRX.out.own j hj).2.1
        have hsx : ∀ j, S1 j → j < xs := fun j hj => by
          rw [← hXs]
          exact HLX.out.dn.hi j hj
        have hwx : W.heap.size ≤ xs := by
          rw [← hXs]
          exact HLX.out.size
        have hlen4 : (rdFrames c).1.length ≤ 1099511627776 ∧ (toldOf (cs.take k)).length + (rdFrames c).1.length ≤ 1099511627776 := by
          have h1 := hlen.out
          rw [HS.out, List.length_append] at h1
          omega
        have hrw4 : RdW w4 (Ex (fun j => S1 j ∨ j = lb) u6) (.slice q4 (rdFrames c).1.length cp4) (rdFrames c).1 := (ho4.rdw (by omega)).mono fun j _ hj => by
          rcases hj with (hj | rfl) | hj
          · exact hsx j hj
          · exact hlx
          · exact hux j hj
        have hfr4 : ¬ (S1 w4.heap.size ∨ w4.heap.size = lb) := by
          rintro (h1 | h1)
          · have := hsx _ h1
            omega
          · omega
        have HL4 := Lib.hid hL4
        have HR4 := Lib.hid hR4
        have HO4 := Lib.hid hO4
        have HRW4 := Lib.hid hrw4
        have hwz : W.heap.size ≤ w4.heap.size := by omega
        clear ho4 hb4 hL4 hR4 hO4 hrw4 HLX HRX HOX HRF hXs hux hsx
        refine Lib.hid ?_
        have hcap : c.length ≤ cap ∧ cap ≤ 9223372036854775807 := by
          obtain ⟨p', cap', heq, h1, h2⟩ := HO4.out.form
          injection heq with _ _ e3
          subst e3
          exact ⟨h1, h2⟩
        have HROW : Hid (∀ j, u6.ownBlock = some j → W.heap.size ≤ j ∧ ¬ S1 j ∧ j ≠ lb) := Lib.hid fun j hj => by
          have h1 := HR4.out.own j hj
          exact ⟨h1.1, fun h => h1.2.2 (.inl h), fun h => h1.2.2 (.inr h)⟩
        have HULT : Hid (∀ j, u6.ownBlock = some j → j < wr.heap.size) := Lib.hid fun j hj => (HI.out.1.own j hj).2.1
        rcases Nat.eq_zero_or_pos (rdFrames c).2.2 with he0 | he0
        · have e0 : (((rdFrames c).2.2 : Int) != 0) = false := by rw [he0]; rfl
          have HE0 := Lib.hid he0
          clear he0 hcr hcap
          generalize hrf : rdFrames c = rf at *
          have HRF2 := Lib.hid hrf
          clear hrf
          go_wp2_with (at_builtin; refine wpList_append_w rfl _ _ rfl (fun j => S1 j ∨ j = lb) W.heap.size _ _ (toldOf (cs.take k)) rf.1 rfl HR4.out rfl HRW4.out hfr4 (by omega) hwz ?_; intro v5 w5 hR5 hb5 hg5; have HR5 := Lib.hid hR5; have HG5 := Lib.hid hg5; clear hR5 hb5 hg5)
          go_roundw
          case rel =>
            refine ⟨k + 1, first + k, by omega, by go_num, Lib.hid ⟨?_, HL4.out.row hW3 HG5.out HROW.out, ?_, fun c' _ hc' => ?_⟩⟩
            · rw [HS.out]
              exact HR5.out
            · unfold finM
              rw [List.length_take, Nat.min_eq_left (by omega), if_neg (by omega)]
              omega
            · rw [HAt.out c' hc', HRF2.out]
              exact HE0.out
          case measure => simp [intOf]; omega
        · have hk1 : k + 1 = cs.length := by
            rcases Nat.lt_or_ge (k + 1) cs.length with h1 | h1
            · have := HOkc.out h1
              omega
            · omega
          have e0 : (((rdFrames c).2.2 : Int) != 0) = true := bne_iff_ne.2 (by omega)
          have HFin := Lib.hid (finD_torn (D := D) (nm := nm) (first := first) (HLast.out hk1) (by omega))
          have HRm := Lib.hid (HRoom.out c (HLast.out hk1))
          clear he0
          generalize hrf : rdFrames c = rf at *
          have HRF2 := Lib.hid hrf
          clear hrf
          go_wp2_with (at_builtin; refine wpList_append_w rfl _ _ rfl (fun j => S1 j ∨ j = lb) W.heap.size _ _ (toldOf (cs.take k)) rf.1 rfl HR4.out rfl HRW4.out hfr4 (by omega) hwz ?_; intro v5 w5 hR5 hb5 hg5; refine Hid.out ?_)
          have hL5 := HL4.out.row hW3 hg5 HROW.out
          have hO5 : Own w5 wr.heap.size (.slice p c.length cap) c := HO4.out.keep fun j hj => hg5.block j (block_lt (HO4.out.heap hj).choose_spec) fun e => by
            have h1 := HULT.out j e.symm
            have h2 := HO4.out.block j hj
            omega
          have hrd5 := (hO5.rd (by omega)).take (n := rf.2.1) hcr
          have htl : (c.take rf.2.1).length = rf.2.1 := by rw [List.length_take]; omega
          have hv5 : RdV w5 S1 (.slice p rf.2.1 cap) (bs (c.take rf.2.1)) := RdV.of_out hrd5 fun _ j hj => HI.out.2.1.dn.out (hO5.block j (by cases p with | none => cases hj | some a => exact hj))
          have HLay := Lib.hid (layAnew_any w5 S1 lb db (first + k) nm D hL5.again (first + k) (by omega) hnm _ _ hv5 HTmp.out (by rw [htl]; exact HRm.out) hcnt)
          have HL5 := Lib.hid hL5
          have HR5 := Lib.hid hR5
          clear hL5 hO5 hrd5 hv5 hR5 hb5 hg5
          refine Lib.hid ?_
          go_wp2_with (go_at_call 40; refine HLay.out.mono ?_; rintro e w6 ⟨rfl, S6, hL6⟩; have HL6 := Lib.hid hL6; clear hL6)
          go_ret2
          refine ⟨v5, rfl, S6, ?_, ?_⟩
          · have h1 := HR5.out.step (HL6.out.fr.mono fun j _ hj => .inl hj) (S' := S6) fun j hj => (HL6.out.nx j hj).elim (fun h => .inl (.inl h)) .inr
            have h2 := HS.out
            rw [hk1, List.take_length] at h2
            rw [h2]
            exact h1
          · rw [HFin.out]
            have h1 := HL5.out.trans HL6.out
            rw [htl] at h1
            have h3 : first + cs.length - 1 = first + k := by omega
            have h4 : finM m0 first cs = first + k := by
              unfold finM
              rw [if_neg (by omega), h3]
            rw [h3, h4]
            exact h1
    · obtain rfl : k = cs.length := by omega
      have HRead : ∀ w1, Hid (Below wr.heap.size wr w1) → Calls Tryz.prog 15 #[.pointer (some ⟨db, 0, none⟩), .string ⟨(segName nm (first + cs.length)).toArray⟩] w1 fun e w' => e = .returned (.tuple #[.slice none 0 0, .int .i64 4]) ∧ Hid (Below wr.heap.size wr w') := fun w1 hb =>
        (read_none w1 S1 db D (HI.out.2.1.dn.below hb.out).dk _ hmx HEnd.out).mono fun e w' ⟨he, hw⟩ => ⟨he, by subst hw; exact hb⟩
      clear hlt hmx
      generalize segName nm (first + cs.length) = sn at *
      have hf9 : ((first + cs.length : Nat) : Int) ≤ 999999 := by omega
      generalize hF : ((first + cs.length : Nat) : Int) = F at *
      go_upto_region 5 with (fail)
      go_cut [8, 9] (fun a b wx => a = .slice none 0 0 ∧ b = .int .i64 4 ∧ Hid (Below wr.heap.size wr wx))
      case first =>
        go_region_with (first
          | (go_at_call 26
             refine (HFile _ (by assumption)).mono ?_
             rintro e wg ⟨rfl, HB4⟩
             have c0 := (below_cells HB4.out lb 0 hlr).trans C0.out)
          | (go_at_call 15
             refine (HRead _ (by assumption)).mono ?_
             rintro e wz ⟨rfl, HZ⟩))
        all_goals
          go_wp2_with fail
          go_meet
          exact ⟨rfl, rfl, HZ⟩
      case rest =>
        obtain ⟨rfl, rfl, HZ⟩ := hcut
        go_wp2_with fail
        go_ret2
        have hL := HI.out.2.1.below HZ.out
        have h1 := HI.out.1
        rw [HI.out.2.2.1, List.take_length] at hL
        rw [List.take_length] at h1
        refine ⟨u6, rfl, S1, (h1.below HZ.out).step (Fr.refl _ _) fun j hj => .inl (.inl hj), ?_⟩
        rw [finD_ok fun c hc => ?_]
        · exact hL
        · rw [List.getLast?_eq_getElem?] at hc
          have := (List.getElem?_eq_some_iff.1 hc).1
          exact HI.out.2.2.2 c (by omega) hc
end Go.Proofs.YtlbfgkocpjlamaaGreatDoor
