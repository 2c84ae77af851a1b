/-
  The walk over the reference's Rename.
-/
import Derived.Test.YtlekffhacmdnnaaRqC
import Derived.Test.YtlekffhacmdnnaaRnP
namespace Go.Proofs.Ytlekffhacmdnnaa
open Go.RowKit

set_option maxHeartbeats 400000 in
theorem rrename_none (w : World) (S : Nat → Prop) (rb : Nat) (D : Dsk) (h : Rf w S rb D) (s t : List UInt8) (hn : look s D.files = none) :
    Calls Try.prog 35 #[.pointer (some ⟨rb, 0, none⟩), .string ⟨s.toArray⟩, .string ⟨t.toArray⟩] w fun e w' => e = .returned (.int .i64 4) ∧ ∃ n, w' = w.drewN n := by
  have HF := find_any w S rb D h s
  rw [hn] at HF
  clear hn
  go_enter Try.func35, Try.ntmps35
  go_wp2_with fail
  refine HF.mono ?_
  rintro e w' ⟨rfl, n, rfl⟩
  go_wp2_with fail
  go_ret
  exact ⟨rfl, n, rfl⟩
set_option maxHeartbeats 400000 in
theorem rrename_arg (w : World) (S : Nat → Prop) (rb : Nat) (D : Dsk) (h : Rf w S rb D) (s t : List UInt8) (ht : t.length ≤ 140737488355328) (f : Fl) (hn : look s D.files = some f) (hnm : isName t = false) :
    Calls Try.prog 35 #[.pointer (some ⟨rb, 0, none⟩), .string ⟨s.toArray⟩, .string ⟨t.toArray⟩] w fun e w' => e = .returned (.int .i64 1) ∧ ∃ n, w' = w.drewN n := by
  have HF := find_any w S rb D h s
  have HC : ∀ n, Calls Try.prog 21 #[.string ⟨t.toArray⟩] (w.drewN n) fun e w' => e = .returned (.bool false) ∧ w.drewN n = w' := fun n => by rw [← hnm]; exact rname_any t _ ht
  rw [hn] at HF
  clear hn hnm
  go_enter Try.func35, Try.ntmps35
  go_wp2_with fail
  refine HF.mono ?_
  rintro e w' ⟨rfl, n, rfl⟩
  go_wp2_with fail
  refine (HC n).mono ?_
  rintro e w' ⟨rfl, rfl⟩
  go_wp2_with fail
  go_ret
  exact ⟨rfl, n, rfl⟩
set_option maxHeartbeats 400000 in
theorem rrename_same (w : World) (S : Nat → Prop) (rb : Nat) (D : Dsk) (h : Rf w S rb D) (s : List UInt8) (f : Fl) (hn : look s D.files = some f) (hnm : isName s = true) :
    Calls Try.prog 35 #[.pointer (some ⟨rb, 0, none⟩), .string ⟨s.toArray⟩, .string ⟨s.toArray⟩] w fun e w' => e = .returned (.int .i64 0) ∧ ∃ n, w' = w.drewN n := by
  have HF := find_any w S rb D h s
  have HC : ∀ n, Calls Try.prog 21 #[.string ⟨s.toArray⟩] (w.drewN n) fun e w' => e = .returned (.bool true) ∧ w.drewN n = w' := fun n => by rw [← hnm]; exact rname_any s _ (by have := isName_len hnm; omega)
  rw [hn] at HF
  clear hn hnm
  go_enter Try.func35, Try.ntmps35
  go_wp2_with fail
  refine HF.mono ?_
  rintro e w' ⟨rfl, n, rfl⟩
  go_wp2_with fail
  refine (HC n).mono ?_
  rintro e w' ⟨rfl, rfl⟩
  go_wp2_with fail
  go_ret
  exact ⟨rfl, n, rfl⟩

theorem del_del (s t : List UInt8) (l : List Fl) : del t (del s (del t l)) = del t (del s l) := by
  simp only [del, List.filter_filter]
  congr 1
  funext g
  cases (g.name == t) <;> cases (g.name == s) <;> rfl

set_option maxRecDepth 100000 in
set_option maxHeartbeats 2000000 in
theorem rrename_some (w : World) (S : Nat → Prop) (rb : Nat) (D : Dsk) (h : Rf w S rb D) (s t : List UInt8) (hcnt : D.files.length ≤ 1099511627774) (f : Fl) (hn : look s D.files = some f) (hnm : isName t = true) (hne : s ≠ t) :
    Calls Try.prog 35 #[.pointer (some ⟨rb, 0, none⟩), .string ⟨s.toArray⟩, .string ⟨t.toArray⟩] w fun e w' => e = .returned (.int .i64 0) ∧ Rf w' (More S w.heap.size) rb (rename D s t) ∧ Fr S w w' := by
  have htl := isName_len hnm
  have HF := find_any w S rb D h s
  have HC : ∀ X, Calls Try.prog 21 #[.string ⟨t.toArray⟩] X fun e w' => e = .returned (.bool true) ∧ X = w' := fun X => by rw [← hnm]; exact rname_any t _ (by omega)
  rw [hn] at HF
  have hst : (s == t) = false := by simpa using hne
  have HN := Lib.hid hn
  obtain ⟨fv, us, h⟩ := h
  have hpa := plc_at h.srt hn
  have HLe := Lib.hid (h.le f (look_some hn).1)
  have hnf := (look_some hn).2
  have HRoom : Hid (used (put ⟨t, f.data, f.synced⟩ (del s D.files)) ≤ D.size) := Lib.hid (by
    have h1 := used_put (h.srt.del s) ⟨t, f.data, f.synced⟩
    have h2 := used_del h.srt s
    have h3 := h.room
    rw [hn] at h2
    simp only at h1 h2
    omega)
  have HRen : Hid (({ D with files := put ⟨t, f.data, f.synced⟩ (del s D.files) } : Dsk) = rename D s t) := Lib.hid (by
    unfold rename
    rw [fileOf_look hn]
    unfold put
    simp only
    rw [del_del])
  obtain ⟨P, hP⟩ : ∃ P, plc s D.files = P := ⟨_, rfl⟩
  rw [hP] at HF hpa
  have hPlt := (List.getElem?_eq_some_iff.1 hpa).1
  have c1 := h.c1
  have hrlt := h.lt
  have HR := Lib.hid h
  obtain ⟨p, cap, rfl, hlc, hcm, hat⟩ := h.form
  obtain ⟨g, u, rfl, d0, d1, d2, hu, hin⟩ := hat P f hpa
  rw [hnf] at d0
  have HI := Lib.hid hin
  obtain ⟨pu, capu, rfl, hlcu, hl47u, hcmu, _⟩ := hin.rd.form
  clear hn hne hnm hat hpa hP hu hin hnf h
  go_enter Try.func35, Try.ntmps35
  go_wp2_with fail
  refine HF.mono ?_
  rintro e w' ⟨rfl, n, rfl⟩
  clear HF
  generalize hX : World.drewN w n = X
  have hXB : Below w.heap.size w X := by rw [← hX]; exact below_drewN (Below.refl _ _) _
  have HXs : Hid (X.heap.size = w.heap.size) := Lib.hid (by rw [← hX]; rfl)
  have HXR : Hid (RfAt X S rb D (.slice (some ⟨g, 0, none⟩) D.files.length cap) us) := Lib.hid (by rw [← hX]; exact HR.out.drewN _)
  have HXI : Hid (InS S X (.slice pu f.data.length capu) f.data) := Lib.hid (HI.out.keep (fun _ _ => by rw [← hX]; rfl) (fun _ _ hs => hs))
  have c1 : X.cell? ⟨rb, 1, none⟩ = some (.slice (some ⟨g, 0, none⟩) D.files.length cap) := HXR.out.c1
  have d0 : X.cell? ⟨g, P * 3, none⟩ = some (.string ⟨s.toArray⟩) := by rw [← hX]; exact d0
  have d1 : X.cell? ⟨g, P * 3 + 1, none⟩ = some (.slice pu f.data.length capu) := by rw [← hX]; exact d1
  have d2 : X.cell? ⟨g, P * 3 + 2, none⟩ = some (.int .i64 (f.synced : Int)) := by rw [← hX]; exact d2
  have HXB := Lib.hid hXB
  clear hX hXB
  go_wp2_with fail
  refine (HC X).mono ?_
  rintro e w' ⟨rfl, rfl⟩
  clear HC
  go_wp2_with fail
  obtain ⟨A, hA⟩ : ∃ A, X.alloc (.cells #[.string ⟨s.toArray⟩, .slice pu f.data.length capu, .int .i64 (f.synced : Int)] 73) = A := ⟨_, rfl⟩
  have hbA : Below X.heap.size X A := by
    rw [← hA]
    exact (Below.refl _ X).alloc (Nat.le_refl _) _
  have hAb : A.heap[X.heap.size]? = some (.cells #[.string ⟨s.toArray⟩, .slice pu f.data.length capu, .int .i64 (f.synced : Int)] 73 (0, 0)) := by
    rw [← hA]
    exact heap_alloc_new X _
  have HAR : Hid (RfAt A (fun k => S k ∧ k < X.heap.size) rb D (.slice (some ⟨g, 0, none⟩) D.files.length cap) us) := Lib.hid (HXR.out.step (Fr.of_new hbA (fun _ => False)) (fun _ _ _ hf => hf) (fun k hk hs => ⟨hs, hk⟩))
  have HDrop := Lib.hid (drop_some A _ rb D ⟨_, us, HAR.out⟩ s f HN.out (by omega))
  rw [hA]
  have HAb := Lib.hid hAb
  have HBA : Hid (Below w.heap.size w A) := Lib.hid (HXB.out.trans (hbA.mono (Nat.le_of_eq HXs.out.symm)))
  have HAI := Lib.hid (HXI.out.keep (w' := A) (S' := S) (fun j hj => hbA.block j (by obtain ⟨cur, hc⟩ := HXI.out.1.heap hj; exact block_lt hc)) (fun _ _ hs => hs))
  have hrX : rb < X.heap.size := HXR.out.lt
  clear hA hbA hAb c1 d0 d1 d2
  refine HDrop.out.mono ?_
  rintro e w1 ⟨rfl, hr1, hf1⟩
  have e0 := hf1.keep HAb.out (show ¬ X.heap.size = rb by omega)
  have d0 := cell_of (i := 0) e0 rfl
  have d1 := cell_of (i := 1) e0 rfl
  have d2 := cell_of (i := 2) e0 rfl
  have z0 : w1.frozen? ⟨X.heap.size, 0, none⟩ = false := frozen_of e0
  have HE0 := Lib.hid e0
  have HR1 := Lib.hid hr1
  have HF1 := Lib.hid hf1
  clear e0 hr1 hf1
  go_wp2_with fail
  have hfX : Fr (fun k => k = X.heap.size) w1 (w1.setCell ⟨X.heap.size, 0, none⟩ (.string ⟨t.toArray⟩)) := (Fr.refl _ w1).then (Fr.setCell (fun k => k = X.heap.size) w1 (p := ⟨X.heap.size, 0, none⟩) rfl _)
  have hfS : Fr S w (w1.setCell ⟨X.heap.size, 0, none⟩ (.string ⟨t.toArray⟩)) := by
    have h1 : Fr S w A := Fr.of_new HBA.out S
    have h2 : Fr S w w1 := h1.then (HF1.out.mono fun k _ hk => by rw [hk]; exact HAR.out.inS.1)
    exact h2.trans (hfX.mono fun k _ hk => .inr (by rw [hk, HXs.out]; exact Nat.le_refl _))
  have hsz := hfS.size
  -- the disk behind the store into the caller's own copy
  have hRf : Rf (w1.setCell ⟨X.heap.size, 0, none⟩ (.string ⟨t.toArray⟩)) (More S w.heap.size) rb (del1 D s) := by
    have hAs : w.heap.size ≤ A.heap.size := HBA.out.size
    have hXA : X.heap.size < A.heap.size := block_lt HAb.out
    exact HR1.out.step hfX (fun k _ hm e => hm.elim (fun h1 => by have := h1.2; omega) (fun hle => by omega)) (fun k _ hm => hm.imp And.left fun hle => Nat.le_trans hAs hle)
  have hIn : InS (More S w.heap.size) (w1.setCell ⟨X.heap.size, 0, none⟩ (.string ⟨t.toArray⟩)) (.slice pu f.data.length capu) f.data := by
    have h1 : InS (More S w.heap.size) w1 (.slice pu f.data.length capu) f.data := HAI.out.keep (fun j hj => by
      obtain ⟨cur, hc⟩ := HAI.out.1.heap hj
      exact HF1.out.block j (block_lt hc) (kind_ne hc HAR.out.blk (by decide))) (fun _ _ hs => .inl hs)
    refine h1.keep (fun j hj => ?_) (fun _ _ hs => hs)
    obtain ⟨cur, hc⟩ := h1.1.heap hj
    exact setCell_other (kind_ne hc HE0.out (by decide)) _
  have HP := Lib.hid (rput_any _ (More S w.heap.size) rb (del1 D s) hRf ⟨t, f.data, f.synced⟩ (.slice pu f.data.length capu) hIn HLe.out htl HRoom.out (Nat.le_trans (List.length_filter_le _ _) hcnt))
  have HFS := Lib.hid hfS
  clear hfX hfS hRf hIn
  refine HP.out.mono ?_
  rintro e w5 ⟨rfl, hr5, hf5⟩
  have HR5 := Lib.hid hr5
  have HF5 := Lib.hid hf5
  clear hr5 hf5
  go_wp2_with fail
  go_ret
  have h1 := HR5.out
  have h3 : ({ del1 D s with files := put ⟨t, f.data, f.synced⟩ (del1 D s).files } : Dsk) = rename D s t := HRen.out
  rw [h3] at h1
  exact ⟨rfl, h1.mono fun k _ hk => hk.elim id fun hle => .inr (Nat.le_trans hsz hle), HFS.out.trans HF5.out⟩
end Go.Proofs.Ytlekffhacmdnnaa
