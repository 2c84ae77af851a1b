/-
  The numbers of a log's segments; dropping some; the first.
-/
import Derived.Test.YtlbfgkocpjlamaaGreatDoorWlF
import Derived.Test.YtlbfgkocpjlamaaGreatDoorWD
import Derived.Test.YtlbfgkocpjlamaaGreatDoorDB
namespace Go.Proofs.YtlbfgkocpjlamaaGreatDoor
open Go.RowKit

/-- The segments of a log that a disk has. -/
def Segs (D : Dsk) (nm : List UInt8) (ns : List Nat) : Prop := (namesOf D.files).filter (begs [nm ++ [45]]) = ns.map (segName nm)
def nv (n : Nat) : Value := .int .i64 (n : Int)

set_option maxRecDepth 100000 in
set_option maxHeartbeats 1000000 in
theorem numbers_any (w : World) (S : Nat → Prop) (lb db m : Nat) (nm : List UInt8) (D : Dsk) (ns : List Nat) (hL : LogAt w lb db nm m) (h : Dn w S db D) (hT : Tb w)
    (hg : Segs D nm ns) (hn : ∀ n ∈ ns, n ≤ 999999) (hl : nm.length ≤ 1000) (hcnt : D.files.length ≤ 1099511627776) :
    Calls Tryz.prog 36 #[.pointer (some ⟨lb, 0, none⟩)] w fun e w' => ∃ v, e = .returned v ∧ OwnX w' 3 w.heap.size v (ns.map nv) ∧ Below w.heap.size w w' := by
  have hcat : (⟨nm.toArray⟩ : ByteArray) ++ (⟨#[45]⟩ : ByteArray) = ⟨(nm ++ [45]).toArray⟩ := ba_append nm [45]
  have c0 := hL.c0
  have c1 := hL.c1
  have hlb := hL.lt
  have c0a : ∀ o, (w.alloc o).cell? ⟨lb, 0, none⟩ = some (.pointer (some ⟨db, 0, none⟩)) := fun o => (World.cell?_of_block (w := w) (w' := w.alloc o) (a := ⟨lb, 0, none⟩) (alloc_old hlb o)).trans c0
  have c1a : ∀ o, (w.alloc o).cell? ⟨lb, 1, none⟩ = some (.string ⟨nm.toArray⟩) := fun o => (World.cell?_of_block (w := w) (w' := w.alloc o) (a := ⟨lb, 1, none⟩) (alloc_old hlb o)).trans c1
  have HL := Lib.hid hL
  have HD := Lib.hid h
  have HTb := Lib.hid hT
  have HG := Lib.hid hg
  have HN := Lib.hid hn
  clear h hT hg hn hL
  generalize hw1 : (w.alloc (.cells #[.string ⟨(nm ++ [45]).toArray⟩] 9)).drew = w1
  have e1 : w1.heap.size = w.heap.size + 1 := by rw [← hw1]; simp
  have hb1 : Below w.heap.size w w1 := by rw [← hw1]; exact ((Below.refl _ _).alloc (Nat.le_refl _) _).drew
  have hr1 : RdV w1 S (.slice (some ⟨w.heap.size, 0, none⟩) 1 1) ([nm ++ [45]].map encStr) := by rw [← hw1]; exact RdV.one w S _ _ (HD.out.out (Nat.le_refl _))
  have HC := list_pre w1 S S db D (HD.out.below hb1).dk _ [nm ++ [45]] hr1 (by simp) hcnt
  rw [HG.out] at HC
  have HLst : Hid (Calls Tryz.prog 30 #[.pointer (some ⟨db, 0, none⟩), .slice (some ⟨w.heap.size, 0, none⟩) 1 1] w1 fun e w' => ∃ p cap, e = .returned (.slice p ns.length cap) ∧ Hid (OwnS w' (w.heap.size + 1) (.slice p ns.length cap) (ns.map (segName nm)) ∧ Below w.heap.size w w')) := Lib.hid (HC.mono fun e wx ⟨v, he, ho, hb⟩ => by
    obtain ⟨p, cap, e2, _⟩ := ho.shape
    rw [List.length_map] at e2
    subst e2
    rw [e1] at ho
    exact ⟨p, cap, he, Lib.hid ⟨ho, hb1.trans (hb.mono hb1.size)⟩⟩)
  subst hw1
  clear HC hr1 hb1 e1
  go_enter Tryz.func36, Tryz.ntmps36
  go_upto_region 2 with (fail)
  go_cut [18, 19, 20] (fun a b c wx => ∃ p cap, a = .slice p ns.length cap ∧ b = .int .i64 (ns.length : Int) ∧ c = .int .i64 0 ∧ Hid (OwnS wx (w.heap.size + 1) (.slice p ns.length cap) (ns.map (segName nm)) ∧ Below w.heap.size w wx))
  case first =>
    go_region_with (first
      | (go_at_call 30
         refine HLst.out.mono ?_
         rintro e wx ⟨p, cap, rfl, HX⟩))
    all_goals
      go_wp2_with fail
      go_meet
      exact ⟨p, cap, rfl, rfl, rfl, HX⟩
  case rest =>
    obtain ⟨p, cap, rfl, rfl, rfl, HX⟩ := hcut
    have hnl : ns.length ≤ D.files.length := by
      have h1 := congrArg List.length HG.out
      have h2 := List.length_filter_le (begs [nm ++ [45]]) (namesOf D.files)
      rw [List.length_map] at h1
      unfold namesOf at h2
      rw [List.length_map] at h2
      unfold namesOf at h1
      omega
    have HR : Hid (RdV wc (fun _ => False) (.slice p ns.length cap) ((ns.map (segName nm)).map encStr)) := Lib.hid (HX.out.1.rdv (by simp; omega) fun _ _ _ hf => hf)
    have HLc := Lib.hid (HL.out.below HX.out.2)
    have HTc := Lib.hid (HTb.out.below HX.out.2)
    clear c0 c1 c0a c1a hcat HLst
    go_wp2_with fail
    go_loopw [3, 20] (fun v i wr => ∃ k : Nat, k ≤ ns.length ∧ i = .int .i64 (k : Int) ∧ Hid (OwnX wr 3 wc.heap.size v ((ns.take k).map nv) ∧ Below wc.heap.size wc wr)) (fun _ i _ => ns.length - (intOf i).toNat)
    case atStart => exact ⟨0, by omega, rfl, Lib.hid ⟨by simpa using OwnX.nil _ _ _, Below.refl _ _⟩⟩
    case round =>
      obtain ⟨k, hk, rfl, HI⟩ := hrel
      by_cases hlt : k < ns.length
      · obtain ⟨b, off, rfl, hb, _, hc⟩ := (HR.out.same (Fr.of_new HI.out.2 _)).at_ (k := k) (by simpa using hlt)
        have hnk := HN.out ns[k] (List.getElem_mem hlt)
        have HS := Lib.hid (take_snoc ns k _ (List.getElem?_eq_getElem hlt))
        rw [List.getElem_map] at hc
        generalize ns[k] = n at *
        change wr.cell? ⟨b, off + k, none⟩ = some (.string ⟨(segName nm n).toArray⟩) at hc
        have HLr := Lib.hid (HLc.out.below HI.out.2)
        have c1 := HLr.out.c1
        have HNO := Lib.hid (numberOf_any nm n hnk hl wr (HTc.out.below HI.out.2))
        have hzr : wc.heap.size ≤ wr.heap.size := HI.out.2.size
        go_wp2_with (go_at_call 60; refine HNO.out.mono ?_; rintro e w2 ⟨rfl, hb2⟩; refine Hid.out ?_)
        refine Lib.hid ?_
        have hz2 := hb2.size
        have HI2 := Lib.hid (HI.out.1.below hb2)
        have HB2 := Lib.hid (HI.out.2.trans (hb2.mono hzr))
        clear hb2 hc
        have HO1 := Lib.hid (RdV.one w2 (fun _ => False) (nv n) 3 (fun hf => hf))
        go_wp2_with (at_builtin; refine wpList_append_x Tryz.underlying23 infoInt rfl rfl _ _ rfl wc.heap.size _ _ ((ns.take k).map nv) [nv n] (fun _ => False) rfl (HI2.out.alloc _) rfl HO1.out (by simp [nv, Value.oneCell']) (by simp; omega) (by omega) (by simp; omega) ?_; intro v' w3 hown3 hg3 _; have HOW := Lib.hid hown3; have HG3 := Lib.hid hg3; clear hown3 hg3)
        go_roundw
        case rel =>
          refine ⟨k + 1, by omega, by go_num, Lib.hid ⟨?_, ?_⟩⟩
          · rw [HS.out, List.map_append]
            exact HOW.out
          · exact (HB2.out.alloc (by omega) _).grown HG3.out (by simp; omega) fun j hj => (HI2.out.lt j hj).1
        case measure => simp [intOf]; omega
      · obtain rfl : k = ns.length := by omega
        go_wp2_with fail
        go_ret
        refine ⟨_, rfl, ?_, HX.out.2.trans (HI.out.2.mono HX.out.2.size)⟩
        have h := HI.out.1
        rw [List.take_length] at h
        exact h.more HX.out.2.size
end Go.Proofs.YtlbfgkocpjlamaaGreatDoor
