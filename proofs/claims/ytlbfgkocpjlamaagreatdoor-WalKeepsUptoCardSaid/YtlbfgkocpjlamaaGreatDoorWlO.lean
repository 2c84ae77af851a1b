/-
  Open: a log of a name from a segment on.
-/
import Derived.Test.YtlbfgkocpjlamaaGreatDoorWlE
import Derived.Test.YtlbfgkocpjlamaaGreatDoorWlT
namespace Go.Proofs.YtlbfgkocpjlamaaGreatDoor
open Go.RowKit

set_option maxHeartbeats 400000 in
theorem ofLog_any (c : UInt8) (w : World) : Calls Tryz.prog 37 #[.int .u8 (c.toNat : Int)] w fun e w' => e = .returned (.bool (ofLog c)) ∧ w = w' := by
  have hlt : c.toNat < 256 := c.toNat_lt
  generalize hb : ofLog c = r
  have HB := Lib.hid hb
  clear hb
  go_enter Tryz.func37, Tryz.ntmps37
  go_wp2
  all_goals
    go_ret
    refine ⟨ret_bool ?_, rfl⟩
    rw [← HB.out]
    unfold ofLog
    rw [Bool.eq_iff_iff]
    simp
    omega
theorem ofLog_at (s : List UInt8) (k : Nat) (hk : k < s.length) (w : World) (r : Bool) (hr : ofLog s[k] = r) :
    Calls Tryz.prog 37 #[.int .u8 (((⟨s.toArray⟩ : ByteArray)[k]'(by simpa [ByteArray.size] using hk)).toNat : Int)] w fun e w' => e = .returned (.bool r) ∧ w = w' := by
  subst hr
  exact ofLog_any _ w

set_option maxHeartbeats 400000 in
theorem isLog_any (s : List UInt8) (w : World) (h : isLog s = true) : Calls Tryz.prog 20 #[.string ⟨s.toArray⟩] w fun e w' => e = .returned (.bool true) ∧ w = w' := by
  obtain ⟨h1, h2⟩ := isLog_len h
  have HA : Hid (∀ (k : Nat) (hk : k < s.length), ofLog s[k] = true) := Lib.hid fun k hk => by
    simp only [isLog, Bool.and_eq_true, List.all_eq_true] at h
    exact h.2 _ (List.getElem_mem hk)
  clear h
  go_enter Tryz.func20, Tryz.ntmps20
  go_wp2_with fail
  go_loop [3, 14] (fun _ i => ∃ k : Nat, k ≤ s.length ∧ i = .int .i64 (k : Int)) (fun _ i => s.length - (intOf i).toNat)
  case atStart => exact ⟨0, by omega, rfl⟩
  case round =>
    obtain ⟨k, hk, rfl⟩ := hrel
    by_cases hlt : k < s.length
    · have HC := ofLog_at s k hlt w true (HA.out k hlt)
      go_wp2_with fail
      refine HC.mono ?_
      rintro e w' ⟨rfl, rfl⟩
      clear HC
      go_wp2_with fail
      go_round
      case rel => exact ⟨k + 1, by omega, by go_num⟩
      case measure => simp [intOf]; omega
    · go_wp2_with fail
      go_ret
      exact ⟨rfl, rfl⟩

set_option maxRecDepth 100000 in
set_option maxHeartbeats 1000000 in
/-- Open of a log whose segments from first on have the bytes cs, the last of which may be torn. -/
theorem open_any (w : World) (S : Nat → Prop) (db : Nat) (nm : List UInt8) (D : Dsk) (h : Dn w S db D) (hT : Tb w) (first : Nat) (cs : List (List UInt8)) (ns : List Nat) (hnm : isLog nm = true)
    (hseg : ∀ k c, cs[k]? = some c → ∃ y, look (segName nm (first + k)) D.files = some ⟨segName nm (first + k), c, y⟩) (hend : look (segName nm (first + cs.length)) D.files = none) (hmax : first + cs.length ≤ 999998)
    (hok : ∀ k c, k + 1 < cs.length → cs[k]? = some c → (rdFrames c).2.2 = 0) (hroom : ∀ c, cs.getLast? = some c → used D.files + (rdFrames c).2.1 ≤ D.size) (hrd : ∀ c ∈ cs, (rdFrames c).2.1 ≤ c.length)
    (htmp : look (tmpName nm) D.files = none) (hcnt : D.files.length ≤ 1099511627774) (hmany : (toldOf cs).length ≤ 1099511627776)
    (D2 : Dsk) (hD2 : finD D nm first cs = D2) (hg : Segs D2 nm ns) (hn : ∀ n ∈ ns, n ≤ finM first first cs) (hall : hasAll (app D2 (segName nm first) []).files (segs nm (nums first (finM first first cs + 1 - first))) = true) :
    Calls Tryz.prog 9 #[.pointer (some ⟨db, 0, none⟩), .string ⟨nm.toArray⟩, .int .i64 (first : Int)] w fun e w' => ∃ v lb, e = .returned (.tuple #[.pointer (some ⟨lb, 0, none⟩), v, .int .i64 0]) ∧ w.heap.size ≤ lb ∧ ∃ S', RowW w' S' w.heap.size v (toldOf cs) ∧
      Lg w S lb db (finM first first cs) nm S' w' (syncs (app D2 (segName nm first) []) (segs nm (nums first (finM first first cs + 1 - first)))) := by
  have hnl := isLog_len hnm
  have hfm : first ≤ finM first first cs ∧ finM first first cs ≤ 999998 := by
    unfold finM
    split <;> omega
  have HL := Lib.hid (isLog_any nm w hnm)
  have HNum := Lib.hid (isNumber_any (first : Int) w)
  have hnum : (decide (0 ≤ (first : Int)) && decide ((first : Int) ≤ 999999)) = true := by simp; omega
  rw [hnum] at HNum
  have HCl := Lib.hid (sclone_any nm w (by omega))
  have HH := Lib.hid h
  have HTb := Lib.hid hT
  have hsz : ∀ c ∈ cs, c.length ≤ 1073741824 := fun c hc => by
    obtain ⟨k, hk, rfl⟩ := List.mem_iff_getElem.1 hc
    obtain ⟨y, hy⟩ := hseg k _ (List.getElem?_eq_getElem hk)
    have h1 := used_mem (look_some hy).1
    have h2 := h.dk.room
    simp only at h1
    omega
  have hrep : Hid (∀ (w1 : World) (lb : Nat) (S1 : Nat → Prop), Lg w S lb db first nm S1 w1 D → w.heap.size ≤ lb → Calls Tryz.prog 23 #[.pointer (some ⟨lb, 0, none⟩), .int .i64 (first : Int)] w1 fun e w' => ∃ v, e = .returned (.tuple #[v, .int .i64 0]) ∧ ∃ S', RowW w' S' w.heap.size v (toldOf cs) ∧ Lg w S lb db (finM first first cs) nm S' w' D2) := Lib.hid fun w1 lb S1 hl hlb => by
    have := replay_any w w1 S S1 lb db first nm D hl hlb hT.size first cs hnm hseg hend (by omega) hok hsz hroom hrd htmp (by omega) hmany
    rw [hD2] at this
    exact this
  have hcnt2 : D2.files.length ≤ 1099511627775 := by
    rw [← hD2]
    unfold finD
    split
    · split
      · omega
      · have := length_put ⟨segName nm (first + cs.length - 1), (‹List UInt8›).take (rdFrames ‹List UInt8›).2.1, (rdFrames ‹List UInt8›).2.1⟩ D.files
        simp only
        omega
    · omega
  have hset : Hid (∀ (w1 : World) (lb : Nat) (S1 : Nat → Prop), Lg w1 S1 lb db (finM first first cs) nm S1 w1 D2 → Calls Tryz.prog 24 #[.pointer (some ⟨lb, 0, none⟩), .int .i64 (first : Int)] w1 fun e w' => e = .returned (.int .i64 0) ∧ ∃ S', Lg w1 S1 lb db (finM first first cs) nm S' w' (syncs (app D2 (segName nm first) []) (segs nm (nums first (finM first first cs + 1 - first))))) := Lib.hid fun w1 lb S1 hl =>
    settle_any w1 S1 lb db (finM first first cs) nm D2 hl first ns hnm hfm.1 hfm.2 hg hn hcnt2 hall
  generalize hM : finM first first cs = M at *
  clear hM hseg hend hok hroom hrd htmp hD2 hg hn hall hsz hnum h hT hfm hcnt2
  go_enter Tryz.func9, Tryz.ntmps9
  go_wp2_with (first
    | (go_at_call 20; refine HL.out.mono ?_; rintro e wa ⟨rfl, rfl⟩)
    | (go_at_call 21; refine HNum.out.mono ?_; rintro e wb ⟨rfl, rfl⟩)
    | (go_at_call 22; refine HCl.out.mono ?_; rintro e wb ⟨rfl, hbc⟩; refine Hid.out ?_))
  have HDc := Lib.hid (HH.out.below hbc)
  have HTc := Lib.hid (HTb.out.below hbc)
  have HBc := Lib.hid hbc
  have hzc := hbc.size
  clear hbc
  refine Lib.hid ?_
  have hba : Below wb.heap.size wb (wb.alloc (.cells #[.pointer (some ⟨db, 0, none⟩), .string ⟨nm.toArray⟩, .int .i64 (first : Int)] 57)) := (Below.refl _ _).alloc (Nat.le_refl _) _
  have hLg : Lg w S wb.heap.size db first nm S (wb.alloc (.cells #[.pointer (some ⟨db, 0, none⟩), .string ⟨nm.toArray⟩, .int .i64 (first : Int)] 57)) D :=
    ⟨heap_alloc_new wb _, HDc.out.below hba, HTc.out.below hba, Fr.of_new (HBc.out.trans (hba.mono hzc)) S, Nx.refl _ _, HDc.out.out (Nat.le_refl _)⟩
  have HRep := Lib.hid (hrep.out _ wb.heap.size S hLg hzc)
  clear hLg hba
  go_wp2_with (go_at_call 23; refine HRep.out.mono ?_; rintro e w3 ⟨v, rfl, S3, hrow, hl3⟩; refine Hid.out ?_)
  obtain ⟨pv, cv, rfl, _⟩ := hrow.shape
  have HSet := Lib.hid (hset.out w3 wb.heap.size S3 hl3.again)
  have HL3 := Lib.hid hl3
  have HRow := Lib.hid hrow
  clear hl3 hrow
  refine Lib.hid ?_
  go_wp2_with (go_at_call 24; refine HSet.out.mono ?_; rintro e w4 ⟨rfl, S4, hl4⟩; have HL4 := Lib.hid hl4; clear hl4)
  go_ret3
  exact ⟨_, wb.heap.size, rfl, hzc, S4, HRow.out.step HL4.out.fr (fun j hj => HL4.out.nx j hj), HL3.out.trans HL4.out⟩
end Go.Proofs.YtlbfgkocpjlamaaGreatDoor
