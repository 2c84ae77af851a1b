/-
  What Open does behind the reading: segments behind the last go, the first is made, all are synced.
-/
import Derived.Test.YtlbfgkocpjlamaaGreatDoorWlY
namespace Go.Proofs.YtlbfgkocpjlamaaGreatDoor
open Go.RowKit

def nums (a k : Nat) : List Nat := List.range' a k
theorem nums_snoc (a k : Nat) : nums a (k + 1) = nums a k ++ [a + k] := by
  unfold nums
  rw [List.range'_concat]
  simp
theorem nums_length (a k : Nat) : (nums a k).length = k := by simp [nums]
theorem mem_nums {a k n : Nat} (h : n ∈ nums a k) : a ≤ n ∧ n < a + k := by
  unfold nums at h
  rw [List.mem_range'_1] at h
  exact h

set_option maxRecDepth 100000 in
set_option maxHeartbeats 1000000 in
theorem settle_any (w : World) (S : Nat → Prop) (lb db m : Nat) (nm : List UInt8) (D : Dsk) (h : Lg w S lb db m nm S w D) (first : Nat) (ns : List Nat) (hnm : isLog nm = true) (hfm : first ≤ m) (hm : m ≤ 999998)
    (hg : Segs D nm ns) (hn : ∀ n ∈ ns, n ≤ m) (hcnt : D.files.length ≤ 1099511627775) (hall : hasAll (app D (segName nm first) []).files (segs nm (nums first (m + 1 - first))) = true) :
    Calls Tryz.prog 24 #[.pointer (some ⟨lb, 0, none⟩), .int .i64 (first : Int)] w fun e w' => e = .returned (.int .i64 0) ∧ ∃ S', Lg w S lb db m nm S' w' (syncs (app D (segName nm first) []) (segs nm (nums first (m + 1 - first)))) := by
  have hnl := isLog_len hnm
  have hw1 : IntKind.i64.wrap ((m : Int) + 1) = ((m + 1 : Nat) : Int) := by
    rw [IntWalk.i64_in _ (by omega)]
    omega
  have hnone : ns.filter (inR ((m + 1 : Nat) : Int) 1000000) = [] := List.filter_eq_nil_iff.2 fun n hx => by
    have := hn n hx
    simp [inR]
    omega
  have hdrop := drop_any w S lb db m nm D ns h.log h.dn h.tb hg (fun n hx => Nat.le_trans (hn n hx) (by omega)) (by omega) (by omega) ((m + 1 : Nat) : Int) 1000000
  rw [hnone] at hdrop
  have HDrop := Lib.hid hdrop
  have H := Lib.hid h
  have HAll := Lib.hid hall
  have HN := Lib.hid (seg_isName hnm first)
  have HSn : Hid (∀ n, isName (segName nm n) = true) := Lib.hid fun n => seg_isName hnm n
  have c2 := h.log.c2
  clear h hdrop hall hg hn hnone
  go_enter Tryz.func24, Tryz.ntmps24
  go_wp2_with (go_at_call 35; refine HDrop.out.mono ?_; rintro e w2 ⟨rfl, hfr, S2, hd, hx⟩; refine Hid.out ?_)
  have h2 : Lg w S lb db m nm S2 w2 D := H.out.ext hfr hd hx
  clear hfr hd hx HDrop c2
  have c0 := h2.log.c0
  have hlb := h2.log.lt
  have C0 := Lib.hid c0
  have H2 := Lib.hid h2
  have HFile : ∀ w1, Hid (Below w2.heap.size w2 w1) → Calls Tryz.prog 26 #[.pointer (some ⟨lb, 0, none⟩), .int .i64 (first : Int)] w1 fun e w' => e = .returned (.string ⟨(segName nm first).toArray⟩) ∧ Hid (Below w2.heap.size w2 w') := fun w1 hb =>
    (file_any w1 lb db nm m (H2.out.log.below hb.out) first (by omega) (by omega) (H2.out.tb.below hb.out).pow).mono fun e w' ⟨he, h3⟩ => ⟨he, Lib.hid (hb.out.trans (h3.mono hb.out.size))⟩
  have HApp : ∀ w1, Hid (Below w2.heap.size w2 w1) → Calls Tryz.prog 25 #[.pointer (some ⟨db, 0, none⟩), .string ⟨(segName nm first).toArray⟩, .slice none 0 0] w1 fun e w' => e = .returned (.int .i64 0) ∧ Hid (∃ S', Lg w S lb db m nm S' w' (app D (segName nm first) [])) := fun w1 hb => by
    have h3 := H2.out.below hb.out
    have hA := append_all w1 S2 db D h3.dn.dk (segName nm first) (by rw [seg_length]; omega) (.slice none 0 0) [] (RdW.nil w1 S2) (by omega)
    have hroom := h3.dn.dk.room
    rw [show ansApp D (segName nm first) ([] : List (List UInt8)).flatten = 0 by simp [ansApp, HN.out, hroom.1], show actApp D (segName nm first) ([] : List (List UInt8)).flatten = app D (segName nm first) [] by simp [actApp, HN.out, hroom.1]] at hA
    refine hA.mono fun e w' ⟨he, hdk, hfr⟩ => ⟨he, Lib.hid ?_⟩
    obtain ⟨S4, h4, _⟩ := h3.step hdk hfr
    exact ⟨S4, h4⟩
  have H0 : Hid (Below w2.heap.size w2 w2.drew) := Lib.hid (Below.refl _ _).drew
  clear h2
  refine Lib.hid ?_
  generalize hD1 : app D (segName nm first) [] = D1 at *
  have hcnt1 : Hid (D1.files.length ≤ 1099511627776) := Lib.hid (by
    have := len_app D (segName nm first) []
    rw [hD1] at this
    omega)
  have HD1 := Lib.hid hD1
  clear hD1 HN
  go_upto_region 4 with (fail)
  go_cut [6] (fun a wx => a = .int .i64 0 ∧ Hid (∃ S', Lg w S lb db m nm S' wx D1))
  case first =>
    generalize segName nm first = sn at *
    go_region_with (first
      | (go_at_call 26
         refine (HFile _ (by assumption)).mono ?_
         rintro e wg ⟨rfl, HB4⟩
         have c0 := (below_cells HB4.out lb 0 hlb).trans C0.out)
      | (go_at_call 25
         refine (HApp _ (by assumption)).mono ?_
         rintro e wz ⟨rfl, HZ⟩))
    all_goals
      go_wp2_with fail
      go_meet
      exact ⟨rfl, HZ⟩
  case rest =>
    obtain ⟨rfl, HZ⟩ := hcut
    obtain ⟨S4, h4⟩ := HZ.out
    have H4 := Lib.hid h4
    clear h4 HZ HFile HApp H0 C0 c0 H2 hlb
    go_wp2_with fail
    go_loopw [7, 8] (fun v i wr => ∃ k : Nat, k ≤ m + 1 - first ∧ i = .int .i64 ((first + k : Nat) : Int) ∧ Hid (OwnX wr 9 wc.heap.size v ((segs nm (nums first k)).map encStr) ∧ Below wc.heap.size wc wr)) (fun _ i _ => m + 1 - (intOf i).toNat)
    case atStart => exact ⟨0, by omega, by simp, Lib.hid ⟨by simpa [segs, nums] using OwnX.nil _ _ _, Below.refl _ _⟩⟩
    case round =>
      obtain ⟨k, hk, rfl, HI⟩ := hrel
      have hLr := H4.out.below HI.out.2
      have hzr := HI.out.2.size
      have c2 := hLr.log.c2
      have c0 := hLr.log.c0
      have hf0 : (0 : Int) ≤ ((first + k : Nat) : Int) := by omega
      by_cases hlt : k < m + 1 - first
      · have HFile := Lib.hid (file_any wr lb db nm m hLr.log (first + k) (by omega) (by omega) hLr.tb.pow)
        have hle : ((first + k : Nat) : Int) ≤ (m : Int) := by omega
        have HS := Lib.hid (nums_snoc first k)
        have hlen : Hid ((nums first k).length = k) := Lib.hid (nums_length first k)
        have hm999 : first + k ≤ 999999 := by omega
        clear hLr c0
        go_wp2_with (go_at_call 26; refine HFile.out.mono ?_; rintro e w5 ⟨rfl, hbw⟩; refine Hid.out ?_)
        have hz2 := hbw.size
        have HI2 := Lib.hid (HI.out.1.below hbw)
        have HB2 := Lib.hid (HI.out.2.trans (hbw.mono hzr))
        clear hbw c2
        refine Lib.hid ?_
        have HO1 := Lib.hid (RdV.one w5 (fun _ => False) (encStr (segName nm (first + k))) 9 (fun hf => hf))
        go_wp2_with (at_builtin; refine wpList_append_x Tryz.underlying64 infoStr rfl rfl _ _ rfl wc.heap.size _ _ _ [encStr (segName nm (first + k))] (fun _ => False) rfl (HI2.out.alloc _) rfl HO1.out (by simp [encStr, Value.oneCell']) (by have := hlen.out; simp [segs]; omega) (by omega) (by simp; omega) ?_; intro v' w3 hown3 hg3 _; have HOW := Lib.hid hown3; have HG3 := Lib.hid hg3; clear hown3 hg3)
        go_roundw
        case rel =>
          refine ⟨k + 1, by omega, by go_num, Lib.hid ⟨?_, ?_⟩⟩
          · rw [HS.out]
            simpa [segs] using HOW.out
          · exact (HB2.out.alloc (by omega) _).grown HG3.out (by simp; omega) fun j hj => (HI2.out.lt j hj).1
        case measure => simp [intOf]; omega
      · have hle : ¬ ((first + k : Nat) : Int) ≤ (m : Int) := by omega
        have hrd := HI.out.1.rdv (S := S4) (by simp [segs, nums_length]; omega) (fun j hj => H4.out.dn.out (HI.out.1.lt j hj).1)
        have hC := sync_all wr S4 db D1 hLr.dn.dk _ (segs nm (nums first k)) hrd (fun s hs => by
          obtain ⟨n, hx, rfl⟩ := List.mem_map.1 hs
          rw [seg_length]
          unfold maxLen
          omega)
        have hkk : k = m + 1 - first := by omega
        rw [show ansNames D1 (segs nm (nums first k)) = 0 by rw [hkk]; simp [ansNames, HAll.out], show actSync D1 (segs nm (nums first k)) = syncs D1 (segs nm (nums first k)) by rw [hkk]; simp [actSync, HAll.out]] at hC
        have HC := Lib.hid hC
        have HLr := Lib.hid hLr
        clear hC hrd hLr
        go_wp2_with (go_at_call 28; refine HC.out.mono ?_; rintro e w6 ⟨rfl, hdk, hfr⟩; have HDK := Lib.hid hdk; have HFR := Lib.hid hfr; clear hdk hfr)
        go_ret
        obtain ⟨S6, h6, _⟩ := HLr.out.step HDK.out HFR.out
        rw [hkk] at h6
        rw [HD1.out]
        exact ⟨rfl, S6, h6⟩
end Go.Proofs.YtlbfgkocpjlamaaGreatDoor
