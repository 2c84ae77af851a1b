/-
  Segments are dropped; the first of them; the last.
-/
import Derived.Test.YtlbfgkocpjlamaaGreatDoorWlL
namespace Go.Proofs.YtlbfgkocpjlamaaGreatDoor
open Go.RowKit

def inR (a b : Int) (n : Nat) : Bool := decide (a ≤ (n : Int)) && decide ((n : Int) < b)
def segs (nm : List UInt8) (ns : List Nat) : List (List UInt8) := ns.map (segName nm)
theorem Segs.has {D : Dsk} {nm : List UInt8} {ns : List Nat} (h : Segs D nm ns) {n : Nat} (hn : n ∈ ns) : (look (segName nm n) D.files).isSome = true := by
  have h1 : segName nm n ∈ (namesOf D.files).filter (begs [nm ++ [45]]) := by
    rw [h]
    exact List.mem_map_of_mem hn
  obtain ⟨f, hf, e⟩ := List.mem_map.1 (List.mem_filter.1 h1).1
  rcases e2 : look (segName nm n) D.files with _ | g
  · exact absurd e (look_none.1 e2 f hf)
  · rfl
theorem Segs.count {D : Dsk} {nm : List UInt8} {ns : List Nat} (h : Segs D nm ns) : ns.length ≤ D.files.length := by
  have h1 := congrArg List.length h
  have h2 := List.length_filter_le (begs [nm ++ [45]]) (namesOf D.files)
  rw [List.length_map] at h1
  unfold namesOf at h1 h2
  rw [List.length_map] at h2
  omega
theorem take_filter (p : Nat → Bool) (ns : List Nat) (k : Nat) (h : k < ns.length) : (ns.take (k + 1)).filter p = (ns.take k).filter p ++ (if p ns[k] then [ns[k]] else []) := by
  rw [take_snoc ns k _ (List.getElem?_eq_getElem h), List.filter_append]
  congr 1
  cases hp : p ns[k] <;> simp [hp]

set_option maxRecDepth 100000 in
set_option maxHeartbeats 1000000 in
theorem drop_any (w : World) (S : Nat → Prop) (lb db m : Nat) (nm : List UInt8) (D : Dsk) (ns : List Nat) (hL : LogAt w lb db nm m) (h : Dn w S db D) (hT : Tb w)
    (hg : Segs D nm ns) (hn : ∀ n ∈ ns, n ≤ 999999) (hl : nm.length ≤ 1000) (hcnt : D.files.length ≤ 1099511627776) (fr be : Int) :
    Calls Tryz.prog 35 #[.pointer (some ⟨lb, 0, none⟩), .int .i64 fr, .int .i64 be] w fun e w' => e = .returned (.int .i64 0) ∧ Fr S w w' ∧ ∃ S', Dn w' S' db (dels D (segs nm (ns.filter (inR fr be)))) ∧ Nx S S' w := by
  have HL := Lib.hid hL
  have HD := Lib.hid h
  have HTb := Lib.hid hT
  have HG := Lib.hid hg
  have HN := Lib.hid hn
  have hnl := hg.count
  have HNum := Lib.hid (numbers_any w S lb db m nm D ns hL h hT hg hn hl hcnt)
  clear h hT hg hn hL
  go_enter Tryz.func35, Tryz.ntmps35
  go_wp2_with (go_at_call 36; refine HNum.out.mono ?_; rintro e wn ⟨v, rfl, ho, hbn⟩; refine Hid.out ?_)
  refine Lib.hid ?_
  obtain ⟨p, cap, rfl, _⟩ := ho.shape
  have HR : Hid (RdV wn (fun _ => False) (.slice p ns.length cap) (ns.map nv)) := Lib.hid (by have := ho.rdv (S := fun _ => False) (by simp; omega) (fun _ _ hf => hf); simpa using this)
  rw [List.length_map] at *
  have HBn := Lib.hid hbn
  have hzn := hbn.size
  clear ho hbn HNum
  go_wp2_with fail
  go_loopw [7, 13] (fun v i wr => ∃ k : Nat, k ≤ ns.length ∧ i = .int .i64 (k : Int) ∧ Hid (OwnX wr 9 wn.heap.size v ((segs nm ((ns.take k).filter (inR fr be))).map encStr) ∧ Below wn.heap.size wn wr)) (fun _ i _ => ns.length - (intOf i).toNat)
  case atStart => exact ⟨0, by omega, rfl, Lib.hid ⟨by simpa [segs] using OwnX.nil _ _ _, Below.refl _ _⟩⟩
  case round =>
    obtain ⟨k, hk, rfl, HI⟩ := hrel
    have hzr : wn.heap.size ≤ wr.heap.size := HI.out.2.size
    by_cases hlt : k < ns.length
    · obtain ⟨b, off, rfl, hb, _, hc⟩ := (HR.out.same (Fr.of_new HI.out.2 _)).atv (k := k) (x := nv ns[k]) (by simp [hlt])
      have hnk := HN.out ns[k] (List.getElem_mem hlt)
      have HS := Lib.hid (take_filter (inR fr be) ns k hlt)
      have hlen : Hid (((ns.take k).filter (inR fr be)).length ≤ k) := Lib.hid (Nat.le_trans (List.length_filter_le _ _) (by simp; omega))
      generalize ns[k] = n at *
      change wr.cell? ⟨b, off + k, none⟩ = some (.int .i64 (n : Int)) at hc
      have HLr := Lib.hid (HL.out.below (HBn.out.trans (HI.out.2.mono hzn)))
      have HFile := Lib.hid (file_any wr lb db nm m HLr.out n hnk hl (HTb.out.below (HBn.out.trans (HI.out.2.mono hzn))).pow)
      by_cases h1 : fr ≤ (n : Int) ∧ (n : Int) < be
      · obtain ⟨h1, h2⟩ := h1
        have hq : Hid (inR fr be n = true) := Lib.hid (by simp [inR, h1, h2])
        go_wp2_with (go_at_call 26; refine HFile.out.mono ?_; rintro e w2 ⟨rfl, hbw⟩; refine Hid.out ?_)
        refine Lib.hid ?_
        have hz2 := hbw.size
        have HI2 := Lib.hid (HI.out.1.below hbw)
        have HB2 := Lib.hid (HI.out.2.trans (hbw.mono hzr))
        clear hbw hc h1 h2
        have HO1 := Lib.hid (RdV.one w2 (fun _ => False) (encStr (segName nm n)) 9 (fun hf => hf))
        go_wp2_with (at_builtin; refine wpList_append_x Tryz.underlying64 infoStr rfl rfl _ _ rfl wn.heap.size _ _ _ [encStr (segName nm n)] (fun _ => False) rfl (HI2.out.alloc _) rfl HO1.out (by simp [encStr, Value.oneCell']) (by have := hlen.out; simp [segs]; omega) (by omega) (by simp; omega) ?_; intro v' w3 hown3 hg3 _; have HOW := Lib.hid hown3; have HG3 := Lib.hid hg3; clear hown3 hg3)
        go_roundw
        case rel =>
          refine ⟨k + 1, by omega, by go_num, Lib.hid ⟨?_, ?_⟩⟩
          · rw [HS.out, hq.out, if_pos rfl]
            simpa [segs] using HOW.out
          · exact (HB2.out.alloc (by omega) _).grown HG3.out (by simp; omega) fun j hj => (HI2.out.lt j hj).1
        case measure => simp [intOf]; omega
      · have hq : Hid (inR fr be n = false) := Lib.hid (by simp [inR]; omega)
        have HS2 := HS.out
        rw [hq.out] at HS2
        have HS3 := Lib.hid HS2
        clear HS2
        have hsplit : ¬ fr ≤ (n : Int) ∨ (fr ≤ (n : Int) ∧ ¬ (n : Int) < be) := by omega
        clear h1
        rcases hsplit with h1 | ⟨h1, h2⟩
        all_goals
          go_wp2_with fail
          go_roundw
          case rel => exact ⟨k + 1, by omega, by go_num, Lib.hid ⟨by rw [HS3.out]; simpa using HI.out.1, HI.out.2⟩⟩
          case measure => simp [intOf]; omega
    · obtain rfl : k = ns.length := by omega
      have c0 := (HL.out.below (HBn.out.trans (HI.out.2.mono hzn))).c0
      have h0 := HI.out.1
      rw [List.take_length] at h0
      have HBr := Lib.hid (HBn.out.trans (HI.out.2.mono hzn))
      have hfl : (ns.filter (inR fr be)).length ≤ ns.length := List.length_filter_le _ _
      have hrd := h0.rdv (S := S) (by simp [segs]; omega) (fun j hj => HD.out.out (by have := (h0.lt j hj).1; omega))
      have HDr := HD.out.below HBr.out
      have hall : ∀ n ∈ ns.filter (inR fr be), n ∈ ns := fun n hn => (List.mem_filter.1 hn).1
      have hA : hasAll D.files (segs nm (ns.filter (inR fr be))) = true := List.all_eq_true.2 fun s hs => by
        obtain ⟨n, hn, rfl⟩ := List.mem_map.1 hs
        exact HG.out.has (hall n hn)
      have HDel := delete_all wr S db D HDr.dk _ _ hrd (fun s hs => by
        obtain ⟨n, hn, rfl⟩ := List.mem_map.1 hs
        rw [seg_length]
        unfold maxLen
        omega)
      have ea : ansNames D (segs nm (ns.filter (inR fr be))) = 0 := by simp [ansNames, hA]
      have ed : actDel D (segs nm (ns.filter (inR fr be))) = dels D (segs nm (ns.filter (inR fr be))) := by simp [actDel, hA]
      rw [ea, ed] at HDel
      have HDel := Lib.hid HDel
      clear h0 hrd hA ea ed hall
      go_wp2_with (go_at_call 29; refine HDel.out.mono ?_; rintro e w2 ⟨rfl, hdk, hfr⟩)
      go_ret
      obtain ⟨S', hS1, hS2⟩ := HDr.next hdk
      exact ⟨rfl, (Fr.of_new HBr.out S).then hfr, S', hS1, fun j hj => (hS2 j hj).elim .inl fun hle => .inr (Nat.le_trans HBr.out.size hle)⟩

set_option maxHeartbeats 400000 in
theorem first_any (w : World) (S : Nat → Prop) (lb db m : Nat) (nm : List UInt8) (D : Dsk) (ns : List Nat) (hL : LogAt w lb db nm m) (h : Dn w S db D) (hT : Tb w)
    (hg : Segs D nm ns) (hn : ∀ n ∈ ns, n ≤ 999999) (hl : nm.length ≤ 1000) (hcnt : D.files.length ≤ 1099511627776) :
    Calls Tryz.prog 19 #[.pointer (some ⟨lb, 0, none⟩)] w fun e w' => e = .returned (.int .i64 ((ns.headD 0 : Nat) : Int)) ∧ Below w.heap.size w w' := by
  have HNum := Lib.hid (numbers_any w S lb db m nm D ns hL h hT hg hn hl hcnt)
  clear h hT hg hL hn
  go_enter Tryz.func19, Tryz.ntmps19
  go_wp2_with (go_at_call 36; refine HNum.out.mono ?_; rintro e wn ⟨v, rfl, ho, hbn⟩; refine Hid.out ?_)
  refine Lib.hid ?_
  obtain ⟨p, cap, rfl, _⟩ := ho.shape
  have hl0 := (ho.lt)
  rcases ns with _ | ⟨n, r⟩
  · go_wp2_with fail
    go_ret
    exact ⟨rfl, hbn⟩
  · have hc : ∃ b, p = some ⟨b, 0, none⟩ ∧ wn.cell? ⟨b, 0, none⟩ = some (.int .i64 (n : Int)) := by
      rcases ho.2 with ⟨e, _⟩ | ⟨g, cp, cur, e, hb, hg, h1, h2, h3, h4⟩
      · simp at e
      · injection e with e1 e2 e3
        subst e1
        refine ⟨g, rfl, cell_of hg ?_⟩
        have h5 := congrArg (fun l : List Value => l[0]?) h4
        simp only [List.getElem?_take_of_lt (show 0 < (List.map nv (n :: r)).length * 1 by simp)] at h5
        rw [← Array.getElem?_toList, h5]
        rfl
    obtain ⟨b, rfl, hc⟩ := hc
    clear ho hl0
    rw [List.length_map, List.length_cons]
    have hlen : 0 < ((r.length + 1 : Nat) : Int) := by omega
    generalize ((r.length + 1 : Nat)) = N at *
    go_wp2_with fail
    go_ret
    exact ⟨rfl, hbn⟩

set_option maxHeartbeats 400000 in
theorem segment_any (w : World) (lb db m : Nat) (nm : List UInt8) (hL : LogAt w lb db nm m) :
    Calls Tryz.prog 17 #[.pointer (some ⟨lb, 0, none⟩)] w fun e w' => e = .returned (.int .i64 (m : Int)) ∧ w = w' := by
  have c2 := hL.c2
  go_enter Tryz.func17, Tryz.ntmps17
  go_wp2_with fail
  go_ret
  exact ⟨rfl, rfl⟩
end Go.Proofs.YtlbfgkocpjlamaaGreatDoor
