/-
  The walk over the reference's Append.
-/
import Derived.Test.YtlekffhacmdnnaaRqA
import Derived.Test.YtlekffhacmdnnaaRnP
namespace Go.Proofs.Ytlekffhacmdnnaa
open Go.RowKit

set_option maxHeartbeats 400000 in
theorem rappend_arg (w : World) (rb : Nat) (s : List UInt8) (hs : s.length ≤ 140737488355328) (v : Value) (hn : isName s = false) :
    Calls Try.prog 33 #[.pointer (some ⟨rb, 0, none⟩), .string ⟨s.toArray⟩, v] w fun e w' => e = .returned (.int .i64 1) ∧ w = w' := by
  have HC := rname_any s w hs
  rw [hn] at HC
  clear hn
  go_enter Try.func33, Try.ntmps33
  go_wp2_with fail
  refine HC.mono ?_
  rintro e w' ⟨rfl, rfl⟩
  go_wp2_with fail
  go_ret
  exact ⟨rfl, rfl⟩

set_option maxHeartbeats 400000 in
theorem rappend_full (w : World) (S : Nat → Prop) (rb : Nat) (D : Dsk) (h : Rf w S rb D) (s : List UInt8) (v : Value) (m : List UInt8) (hv : Rd w w.heap.size v m) (hn : isName s = true) (hf : ¬ used D.files + m.length ≤ D.size) :
    Calls Try.prog 33 #[.pointer (some ⟨rb, 0, none⟩), .string ⟨s.toArray⟩, v] w fun e w' => e = .returned (.int .i64 5) ∧ ∃ n, w' = w.drewN n := by
  have hsl := isName_len hn
  have HC := rname_any s w (by omega)
  rw [hn] at HC
  obtain ⟨p, cap, rfl, hlc, hl47, hcm, _⟩ := hv.form
  have hr := h.room
  have HH := Lib.hid h
  have HU : ∀ n, Calls Try.prog 40 #[.pointer (some ⟨rb, 0, none⟩)] (w.drewN n) fun e w' => e = .returned (.int .i64 (used D.files : Int)) ∧ w.drewN n = w' := fun n => rused_any _ S rb D (HH.out.drewN n)
  have c0 : w.cell? ⟨rb, 0, none⟩ = some (.int .i64 (D.size : Int)) := by
    obtain ⟨_, _, h⟩ := h
    exact h.c0
  generalize used D.files = U at *
  obtain ⟨hr1, hr2⟩ := hr
  generalize D.size = Z at *
  have hd : decide ((Z : Int) - (U : Int) < (m.length : Int)) = true := by simp; omega
  have ew : IntKind.i64.wrap ((Z : Int) - (U : Int)) = (Z : Int) - (U : Int) := IntWalk.i64_in _ (by omega)
  clear hn hv h
  go_enter Try.func33, Try.ntmps33
  go_wp2_with fail
  refine HC.mono ?_
  rintro e w' ⟨rfl, rfl⟩
  clear HC
  go_wp2_with fail
  go_quiet ((go_at_call 40; exact q_same (HU _)))
  go_wp2_with fail
  go_ret
  exact ⟨rfl, _, rfl⟩

set_option maxRecDepth 100000 in
set_option maxHeartbeats 2000000 in
theorem rappend_some (w : World) (S : Nat → Prop) (rb : Nat) (D : Dsk) (h : Rf w S rb D) (s : List UInt8) (v : Value) (m : List UInt8) (hv : Rd w w.heap.size v m) (hn : isName s = true) (hf : used D.files + m.length ≤ D.size) (hcnt : D.files.length ≤ 1099511627774) :
    Calls Try.prog 33 #[.pointer (some ⟨rb, 0, none⟩), .string ⟨s.toArray⟩, v] w fun e w' => e = .returned (.int .i64 0) ∧ Rf w' (More S w.heap.size) rb (app D s m) ∧ Fr S w w' := by
  have hsl := isName_len hn
  have HC := rname_any s w (by omega)
  rw [hn] at HC
  have HV := Lib.hid hv
  obtain ⟨p, cap, rfl, hlc, hl47, hcm, _⟩ := hv.form
  have hr := h.room
  have HH := Lib.hid h
  have hus := used_app (s := s) (m := m) h.srt
  have HUs := Lib.hid hus
  have HFd : ∀ n, Calls Try.prog 47 #[.pointer (some ⟨rb, 0, none⟩), .string ⟨s.toArray⟩] (w.drewN n) fun e w' => e = .returned (.tuple #[.int .i64 (plc s D.files : Int), .bool (look s D.files).isSome]) ∧ ∃ k, w' = (w.drewN n).drewN k := fun n => find_any _ S rb D (HH.out.drewN n) s
  have HU : ∀ n, Calls Try.prog 40 #[.pointer (some ⟨rb, 0, none⟩)] (w.drewN n) fun e w' => e = .returned (.int .i64 (used D.files : Int)) ∧ w.drewN n = w' := fun n => rused_any _ S rb D (HH.out.drewN n)
  obtain ⟨fv, us, h⟩ := h
  have hlt := h.lt
  have c0 := h.c0
  have c1 := h.c1
  have HR := Lib.hid h
  have HFit := Lib.hid hf
  generalize hUd : used D.files = U at *
  obtain ⟨hr1, hr2⟩ := hr
  generalize hZd : D.size = Z at *
  have hd : decide ((Z : Int) - (U : Int) < (m.length : Int)) = false := by simp; omega
  have ew : IntKind.i64.wrap ((Z : Int) - (U : Int)) = (Z : Int) - (U : Int) := IntWalk.i64_in _ (by omega)
  have HUd := Lib.hid hUd
  have HZd := Lib.hid hZd
  clear hn hv hUd hZd hus
  rcases e : look s D.files with _ | f
  · rw [e] at HFd
    have HE := Lib.hid e
    clear e h
    go_enter Try.func33, Try.ntmps33
    go_wp2_with fail
    refine HC.mono ?_
    rintro e w' ⟨rfl, rfl⟩
    clear HC
    go_wp2_with fail
    go_quiet ((go_at_call 40; exact q_same (HU _)))
    go_wp2_with fail
    refine (HFd _).mono ?_
    rintro e w' ⟨rfl, n2, rfl⟩
    clear HFd HU c0
    generalize hX : World.drewN (World.drewN w _) n2 = X
    have hXs : X.heap.size = w.heap.size := by rw [← hX]; rfl
    have hXB : Below w.heap.size w X := by rw [← hX]; exact below_drewN (below_drewN (Below.refl _ _) _) _
    have HXR : Hid (RfAt X S rb D fv us) := Lib.hid (by rw [← hX]; exact (HR.out.drewN _).drewN _)
    have HXV : Hid (Rd X w.heap.size (.slice p m.length cap) m) := Lib.hid (HV.out.below hXB)
    have c1 : X.cell? ⟨rb, 1, none⟩ = some fv := HXR.out.c1
    have HXB := Lib.hid hXB
    have HXs := Lib.hid hXs
    clear hX hXB hXs
    have HDl : Hid (([] : List UInt8).length + m.length ≤ 1073741824) := Lib.hid (by simp; omega)
    have hbA : Below X.heap.size X ((X.alloc (.cells #[.string ⟨s.toArray⟩, (.slice none 0 0), .int .i64 0] 73)).alloc (.cells #[] 5)) := ((Below.refl _ _).alloc (Nat.le_refl _) _).alloc (by simp) _
    have HbA := Lib.hid hbA
    have HO0 : Hid (Own ((X.alloc (.cells #[.string ⟨s.toArray⟩, (.slice none 0 0), .int .i64 0] 73)).alloc (.cells #[] 5)) (X.heap.size + 1) (.slice (some ⟨X.heap.size + 1, 0, none⟩) 0 0) []) := Lib.hid (by
      have h1 := own_lit0 (X.alloc (.cells #[.string ⟨s.toArray⟩, (.slice none 0 0), .int .i64 0] 73)) (X.heap.size + 1) (by simp)
      rw [show (X.alloc (.cells #[.string ⟨s.toArray⟩, (.slice none 0 0), .int .i64 0] 73)).heap.size = X.heap.size + 1 by simp] at h1
      exact h1)
    have HRU : Hid (Rd ((X.alloc (.cells #[.string ⟨s.toArray⟩, (.slice none 0 0), .int .i64 0] 73)).alloc (.cells #[] 5)) X.heap.size (.slice none 0 0) ([] : List UInt8)) := Lib.hid (Rd.none_ _ _)
    have HRV : Hid (Rd ((X.alloc (.cells #[.string ⟨s.toArray⟩, (.slice none 0 0), .int .i64 0] 73)).alloc (.cells #[] 5)) w.heap.size (.slice p m.length cap) m) := Lib.hid (HXV.out.under hbA (Nat.le_of_eq HXs.out.symm))
    have HAB : Hid (((X.alloc (.cells #[.string ⟨s.toArray⟩, (.slice none 0 0), .int .i64 0] 73)).alloc (.cells #[] 5)).heap[X.heap.size]? = some (.cells #[.string ⟨s.toArray⟩, (.slice none 0 0), .int .i64 0] 73 (0, 0))) := Lib.hid ((alloc_old (by simp) _).trans (heap_alloc_new X _))
    have HAs : Hid (((X.alloc (.cells #[.string ⟨s.toArray⟩, (.slice none 0 0), .int .i64 0] 73)).alloc (.cells #[] 5)).heap.size = X.heap.size + 2) := Lib.hid (by simp)
    have HLen : Hid (([] : List UInt8).length + ([] : List UInt8).length ≤ 140737488355328) := Lib.hid (by have := HDl.out; first | (simp; done) | (simp at this ⊢; omega))
    have HLen2 : Hid (([] ++ ([] : List UInt8) : List UInt8).length + m.length ≤ 140737488355328) := Lib.hid (by have := HDl.out; first | (simp; done) | (simp at this ⊢; omega))
    have hxs : w.heap.size = X.heap.size := HXs.out.symm
    have HX1 : Hid (w.heap.size ≤ X.heap.size + 1) := Lib.hid (by omega)
    clear hbA hxs
    go_wp2_with (first
      | (at_builtin
         refine wpList_append_rd rfl (.tmp 39) (.tmp 41) rfl (X.heap.size + 1) X.heap.size (.slice (some ⟨X.heap.size + 1, 0, none⟩) 0 0) (.slice none 0 0) [] ([] : List UInt8) rfl HO0.out rfl HRU.out HLen.out (by simp) ?_
         intro y1 w1 ho1 hb1
         have HO1 := Lib.hid ho1
         have HB1 := Lib.hid hb1
         have HRV1 := Lib.hid (HRV.out.under hb1 HX1.out)
         have HS1 : Hid (X.heap.size + 1 ≤ w1.heap.size) := Lib.hid (Nat.le_trans (by simp) hb1.size)
         clear ho1 hb1)
      | (at_builtin
         refine wpList_append_rd rfl (.tmp 42) (.tmp 43) rfl (X.heap.size + 1) w.heap.size y1 (.slice p m.length cap) ([] ++ ([] : List UInt8)) m rfl HO1.out rfl HRV1.out HLen2.out HS1.out ?_
         intro y2 w2 ho2 hb2
         have hb3 := HB1.out.trans hb2
         have e0 : w2.heap[X.heap.size]? = some (.cells #[.string ⟨s.toArray⟩, (.slice none 0 0), .int .i64 0] 73 (0, 0)) := (hb3.block _ (Nat.lt_succ_self _)).trans HAB.out
         have d0 := cell_of (i := 0) e0 rfl
         have d1 := cell_of (i := 1) e0 rfl
         have d2 := cell_of (i := 2) e0 rfl
         have z1 : w2.frozen? ⟨X.heap.size, 1, none⟩ = false := frozen_of e0
         have HE0 := Lib.hid e0
         have HO2 := Lib.hid ho2
         have HB3 := Lib.hid hb3
         obtain ⟨n4, p4, cap4, rfl⟩ := ho2.shape
         clear e0 ho2 hb2 hb3))
    have hs2 : X.heap.size + 2 ≤ w2.heap.size := Nat.le_trans (Nat.le_of_eq HAs.out.symm) HB3.out.size
    have hb4 : Below X.heap.size X w2 := HbA.out.trans (HB3.out.mono (Nat.le_succ _))
    have hb5 : Below X.heap.size X (w2.setCell ⟨X.heap.size, 1, none⟩ (.slice p4 n4 cap4)) := ⟨hb4.os, hb4.tape, hb4.output, by simpa using hb4.size, fun k hk => (setCell_other (Nat.ne_of_lt hk) _).trans (hb4.block k hk)⟩
    have hb6 : Below w.heap.size w (w2.setCell ⟨X.heap.size, 1, none⟩ (.slice p4 n4 cap4)) := HXB.out.trans (hb5.mono (Nat.le_of_eq HXs.out.symm))
    have HB6 := Lib.hid hb6
    have hRf : Rf (w2.setCell ⟨X.heap.size, 1, none⟩ (.slice p4 n4 cap4)) (More S w.heap.size) rb D := Rf.mono (Rf.after ⟨fv, us, HXR.out⟩ hb5) (fun _ _ hs => .inl hs)
    have hIn : InS (More S w.heap.size) (w2.setCell ⟨X.heap.size, 1, none⟩ (.slice p4 n4 cap4)) (.slice p4 n4 cap4) (([] : List UInt8) ++ m) := by
      have h1 := HO2.out
      rw [List.nil_append] at h1
      refine InS.own (base := X.heap.size + 1) (h1.keep fun k hk => setCell_other ?_ _) (by have := HLen2.out; simp at this ⊢; omega) fun k hk => .inr (Nat.le_trans HX1.out hk)
      have := h1.block k hk
      omega
    have hFo : fileOf D s = ⟨s, [], 0⟩ := fileOf_none HE.out
    have hput : ({ D with files := put ⟨s, ([] : List UInt8) ++ m, 0⟩ D.files } : Dsk) = app D s m := by
      unfold app
      rw [hFo]
    have hrm : used (put ⟨s, ([] : List UInt8) ++ m, 0⟩ D.files) ≤ D.size := by
      have h1 := congrArg (fun E => used E.files) hput
      simp only at h1
      rw [h1, HUs.out, HZd.out]
      exact HFit.out
    have HP := Lib.hid (rput_any _ (More S w.heap.size) rb D hRf ⟨s, ([] : List UInt8) ++ m, 0⟩ (.slice p4 n4 cap4) hIn (by simp) (by omega) hrm hcnt)
    have HPut := Lib.hid hput
    clear hb4 hb5 hb6 hRf hIn hput hrm hFo
    refine HP.out.mono ?_
    rintro e w5 ⟨rfl, hr5, hf5⟩
    have HR5 := Lib.hid hr5
    have HF5 := Lib.hid hf5
    clear hr5 hf5
    go_wp2_with fail
    go_ret
    have h1 := HR5.out
    rw [HPut.out] at h1
    have hsz : w.heap.size ≤ (w2.setCell ⟨X.heap.size, 1, none⟩ (.slice p4 n4 cap4)).heap.size := HB6.out.size
    exact ⟨rfl, h1.mono fun k _ hk => hk.elim id fun hle => .inr (Nat.le_trans hsz hle), (Fr.of_new HB6.out S).trans HF5.out⟩
  · rw [e] at HFd
    have HE := Lib.hid e
    have hpa := plc_at h.srt e
    have hle := h.le f (look_some e).1
    have hun := used_mem (look_some e).1
    rw [HUd.out] at hun
    have hnm := (look_some e).2
    obtain ⟨P, hP⟩ : ∃ P, plc s D.files = P := ⟨_, rfl⟩
    rw [hP] at HFd hpa
    have hPlt := (List.getElem?_eq_some_iff.1 hpa).1
    obtain ⟨pf, capf, rfl, hlcf, hcmf, hat⟩ := h.form
    obtain ⟨g, u, rfl, d0, d1, d2, hu, hin⟩ := hat P f hpa
    rw [hnm] at d0
    have HIn := Lib.hid hin
    obtain ⟨pu, capu, rfl, hlcu, hl47u, hcmu, _⟩ := hin.rd.form
    have HDl : Hid (f.data.length + m.length ≤ 1073741824) := Lib.hid (by omega)
    have HLe := Lib.hid hle
    clear e h hat hpa hP hu hin hnm
    go_enter Try.func33, Try.ntmps33
    go_wp2_with fail
    refine HC.mono ?_
    rintro e w' ⟨rfl, rfl⟩
    clear HC
    go_wp2_with fail
    go_quiet ((go_at_call 40; exact q_same (HU _)))
    go_wp2_with fail
    refine (HFd _).mono ?_
    rintro e w' ⟨rfl, n2, rfl⟩
    clear HFd HU c0
    generalize hX : World.drewN (World.drewN w _) n2 = X
    have hXs : X.heap.size = w.heap.size := by rw [← hX]; rfl
    have hXB : Below w.heap.size w X := by rw [← hX]; exact below_drewN (below_drewN (Below.refl _ _) _) _
    have HXR : Hid (RfAt X S rb D (.slice (some ⟨g, 0, none⟩) D.files.length capf) us) := Lib.hid (by rw [← hX]; exact (HR.out.drewN _).drewN _)
    have HXV : Hid (Rd X w.heap.size (.slice p m.length cap) m) := Lib.hid (HV.out.below hXB)
    have c1 : X.cell? ⟨rb, 1, none⟩ = some (.slice (some ⟨g, 0, none⟩) D.files.length capf) := HXR.out.c1
    have HXB := Lib.hid hXB
    have HXs := Lib.hid hXs
    have HXI : Hid (InS S X (.slice pu f.data.length capu) f.data) := Lib.hid (HIn.out.keep (fun _ _ => by rw [← hX]; rfl) (fun _ _ hs => hs))
    have d0 : X.cell? ⟨g, P * 3, none⟩ = some (.string ⟨s.toArray⟩) := by rw [← hX]; exact d0
    have d1 : X.cell? ⟨g, P * 3 + 1, none⟩ = some (.slice pu f.data.length capu) := by rw [← hX]; exact d1
    have d2 : X.cell? ⟨g, P * 3 + 2, none⟩ = some (.int .i64 (f.synced : Int)) := by rw [← hX]; exact d2
    clear hX hXB hXs
    have hgX := cell_lt d0
    have hrX := cell_lt c1
    have c1 : (X.alloc (.cells #[.string ⟨s.toArray⟩, .slice none 0 0, .int .i64 0] 73)).cell? ⟨rb, 1, none⟩ = some (.slice (some ⟨g, 0, none⟩) D.files.length capf) := (World.cell?_of_block (alloc_old hrX _)).trans c1
    have d0 : (X.alloc (.cells #[.string ⟨s.toArray⟩, .slice none 0 0, .int .i64 0] 73)).cell? ⟨g, P * 3, none⟩ = some (.string ⟨s.toArray⟩) := (World.cell?_of_block (alloc_old hgX _)).trans d0
    have d1 : (X.alloc (.cells #[.string ⟨s.toArray⟩, .slice none 0 0, .int .i64 0] 73)).cell? ⟨g, P * 3 + 1, none⟩ = some (.slice pu f.data.length capu) := (World.cell?_of_block (alloc_old hgX _)).trans d1
    have d2 : (X.alloc (.cells #[.string ⟨s.toArray⟩, .slice none 0 0, .int .i64 0] 73)).cell? ⟨g, P * 3 + 2, none⟩ = some (.int .i64 (f.synced : Int)) := (World.cell?_of_block (alloc_old hgX _)).trans d2
    clear hgX hrX
    have hbA : Below X.heap.size X ((X.alloc (.cells #[.string ⟨s.toArray⟩, (.slice pu f.data.length capu), .int .i64 (f.synced : Int)] 73)).alloc (.cells #[] 5)) := ((Below.refl _ _).alloc (Nat.le_refl _) _).alloc (by simp) _
    have HbA := Lib.hid hbA
    have HO0 : Hid (Own ((X.alloc (.cells #[.string ⟨s.toArray⟩, (.slice pu f.data.length capu), .int .i64 (f.synced : Int)] 73)).alloc (.cells #[] 5)) (X.heap.size + 1) (.slice (some ⟨X.heap.size + 1, 0, none⟩) 0 0) []) := Lib.hid (by
      have h1 := own_lit0 (X.alloc (.cells #[.string ⟨s.toArray⟩, (.slice pu f.data.length capu), .int .i64 (f.synced : Int)] 73)) (X.heap.size + 1) (by simp)
      rw [show (X.alloc (.cells #[.string ⟨s.toArray⟩, (.slice pu f.data.length capu), .int .i64 (f.synced : Int)] 73)).heap.size = X.heap.size + 1 by simp] at h1
      exact h1)
    have HRU : Hid (Rd ((X.alloc (.cells #[.string ⟨s.toArray⟩, (.slice pu f.data.length capu), .int .i64 (f.synced : Int)] 73)).alloc (.cells #[] 5)) X.heap.size (.slice pu f.data.length capu) f.data) := Lib.hid (HXI.out.rd.under hbA (Nat.le_refl _))
    have HRV : Hid (Rd ((X.alloc (.cells #[.string ⟨s.toArray⟩, (.slice pu f.data.length capu), .int .i64 (f.synced : Int)] 73)).alloc (.cells #[] 5)) w.heap.size (.slice p m.length cap) m) := Lib.hid (HXV.out.under hbA (Nat.le_of_eq HXs.out.symm))
    have HAB : Hid (((X.alloc (.cells #[.string ⟨s.toArray⟩, (.slice pu f.data.length capu), .int .i64 (f.synced : Int)] 73)).alloc (.cells #[] 5)).heap[X.heap.size]? = some (.cells #[.string ⟨s.toArray⟩, (.slice pu f.data.length capu), .int .i64 (f.synced : Int)] 73 (0, 0))) := Lib.hid ((alloc_old (by simp) _).trans (heap_alloc_new X _))
    have HAs : Hid (((X.alloc (.cells #[.string ⟨s.toArray⟩, (.slice pu f.data.length capu), .int .i64 (f.synced : Int)] 73)).alloc (.cells #[] 5)).heap.size = X.heap.size + 2) := Lib.hid (by simp)
    have HLen : Hid (([] : List UInt8).length + f.data.length ≤ 140737488355328) := Lib.hid (by have := HDl.out; first | (simp; done) | (simp at this ⊢; omega))
    have HLen2 : Hid (([] ++ f.data : List UInt8).length + m.length ≤ 140737488355328) := Lib.hid (by have := HDl.out; first | (simp; done) | (simp at this ⊢; omega))
    have hxs : w.heap.size = X.heap.size := HXs.out.symm
    have HX1 : Hid (w.heap.size ≤ X.heap.size + 1) := Lib.hid (by omega)
    clear hbA hxs
    go_wp2_with (first
      | (at_builtin
         refine wpList_append_rd rfl (.tmp 39) (.tmp 41) rfl (X.heap.size + 1) X.heap.size (.slice (some ⟨X.heap.size + 1, 0, none⟩) 0 0) (.slice pu f.data.length capu) [] f.data rfl HO0.out rfl HRU.out HLen.out (by simp) ?_
         intro y1 w1 ho1 hb1
         have HO1 := Lib.hid ho1
         have HB1 := Lib.hid hb1
         have HRV1 := Lib.hid (HRV.out.under hb1 HX1.out)
         have HS1 : Hid (X.heap.size + 1 ≤ w1.heap.size) := Lib.hid (Nat.le_trans (by simp) hb1.size)
         clear ho1 hb1)
      | (at_builtin
         refine wpList_append_rd rfl (.tmp 42) (.tmp 43) rfl (X.heap.size + 1) w.heap.size y1 (.slice p m.length cap) ([] ++ f.data) m rfl HO1.out rfl HRV1.out HLen2.out HS1.out ?_
         intro y2 w2 ho2 hb2
         have hb3 := HB1.out.trans hb2
         have e0 : w2.heap[X.heap.size]? = some (.cells #[.string ⟨s.toArray⟩, (.slice pu f.data.length capu), .int .i64 (f.synced : Int)] 73 (0, 0)) := (hb3.block _ (Nat.lt_succ_self _)).trans HAB.out
         have d0 := cell_of (i := 0) e0 rfl
         have d1 := cell_of (i := 1) e0 rfl
         have d2 := cell_of (i := 2) e0 rfl
         have z1 : w2.frozen? ⟨X.heap.size, 1, none⟩ = false := frozen_of e0
         have HE0 := Lib.hid e0
         have HO2 := Lib.hid ho2
         have HB3 := Lib.hid hb3
         obtain ⟨n4, p4, cap4, rfl⟩ := ho2.shape
         clear e0 ho2 hb2 hb3))
    have hs2 : X.heap.size + 2 ≤ w2.heap.size := Nat.le_trans (Nat.le_of_eq HAs.out.symm) HB3.out.size
    have hb4 : Below X.heap.size X w2 := HbA.out.trans (HB3.out.mono (Nat.le_succ _))
    have hb5 : Below X.heap.size X (w2.setCell ⟨X.heap.size, 1, none⟩ (.slice p4 n4 cap4)) := ⟨hb4.os, hb4.tape, hb4.output, by simpa using hb4.size, fun k hk => (setCell_other (Nat.ne_of_lt hk) _).trans (hb4.block k hk)⟩
    have hb6 : Below w.heap.size w (w2.setCell ⟨X.heap.size, 1, none⟩ (.slice p4 n4 cap4)) := HXB.out.trans (hb5.mono (Nat.le_of_eq HXs.out.symm))
    have HB6 := Lib.hid hb6
    have hRf : Rf (w2.setCell ⟨X.heap.size, 1, none⟩ (.slice p4 n4 cap4)) (More S w.heap.size) rb D := Rf.mono (Rf.after ⟨_, us, HXR.out⟩ hb5) (fun _ _ hs => .inl hs)
    have hIn : InS (More S w.heap.size) (w2.setCell ⟨X.heap.size, 1, none⟩ (.slice p4 n4 cap4)) (.slice p4 n4 cap4) (f.data ++ m) := by
      have h1 := HO2.out
      rw [List.nil_append] at h1
      refine InS.own (base := X.heap.size + 1) (h1.keep fun k hk => setCell_other ?_ _) (by have := HLen2.out; simp at this ⊢; omega) fun k hk => .inr (Nat.le_trans HX1.out hk)
      have := h1.block k hk
      omega
    have hFo : fileOf D s = f := fileOf_look HE.out
    have hput : ({ D with files := put ⟨s, f.data ++ m, f.synced⟩ D.files } : Dsk) = app D s m := by
      unfold app
      rw [hFo]
    have hrm : used (put ⟨s, f.data ++ m, f.synced⟩ D.files) ≤ D.size := by
      have h1 := congrArg (fun E => used E.files) hput
      simp only at h1
      rw [h1, HUs.out, HZd.out]
      exact HFit.out
    have HP := Lib.hid (rput_any _ (More S w.heap.size) rb D hRf ⟨s, f.data ++ m, f.synced⟩ (.slice p4 n4 cap4) hIn (by have := HLe.out; simp; omega) (by omega) hrm hcnt)
    have HPut := Lib.hid hput
    clear hb4 hb5 hb6 hRf hIn hput hrm hFo
    refine HP.out.mono ?_
    rintro e w5 ⟨rfl, hr5, hf5⟩
    have HR5 := Lib.hid hr5
    have HF5 := Lib.hid hf5
    clear hr5 hf5
    go_wp2_with fail
    go_ret
    have h1 := HR5.out
    rw [HPut.out] at h1
    have hsz : w.heap.size ≤ (w2.setCell ⟨X.heap.size, 1, none⟩ (.slice p4 n4 cap4)).heap.size := HB6.out.size
    exact ⟨rfl, h1.mono fun k _ hk => hk.elim id fun hle => .inr (Nat.le_trans hsz hle), (Fr.of_new HB6.out S).trans HF5.out⟩
end Go.Proofs.Ytlekffhacmdnnaa
