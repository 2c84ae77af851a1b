/-
  Helpers for the reference's calls; the walks over its Read and Unsynced.
-/
import Derived.Test.YtlekffhacmdnnaaRpN
namespace Go.Proofs.Ytlekffhacmdnnaa
open Go.RowKit

theorem q_same {P : Program} {f : FuncId} {args : Array Value} {w : World} {n : Nat} {v : Value}
    (h : Calls P f args (w.drewN n) fun e w' => e = .returned v ∧ w.drewN n = w') : Calls P f args (w.drewN n) fun e w'' => e = .returned v ∧ ∃ m, w'' = w.drewN m :=
  h.mono fun _ _ ⟨he, hm⟩ => ⟨he, n, hm.symm⟩
theorem q_drew {P : Program} {f : FuncId} {args : Array Value} {w : World} {n : Nat} {v : Value}
    (h : Calls P f args (w.drewN n) fun e w' => e = .returned v ∧ ∃ m, w' = (w.drewN n).drewN m) : Calls P f args (w.drewN n) fun e w'' => e = .returned v ∧ ∃ m, w'' = w.drewN m :=
  h.mono fun _ _ ⟨he, m, hm⟩ => ⟨he, n + m, by rw [hm, World.drewN_drewN]⟩
theorem own_lit0 (w : World) (base : Nat) (hb : base ≤ w.heap.size) : Own (w.alloc (.cells #[] 5)) base (.slice (some ⟨w.heap.size, 0, none⟩) 0 0) [] := by
  simpa [Own, bs] using World.ownsRow_lit (e := 5) (size := 1) w #[] 0 hb (Nat.zero_le _) rfl
theorem setCell_id {w : World} {b i : Nat} {c : Array Value} {t : TypeId} {z : Nat × Nat} {x : Value} (h : w.heap[b]? = some (.cells c t z)) (hx : c[i]? = some x) : w.setCell ⟨b, i, none⟩ x = w := by
  have e : (w.setCell ⟨b, i, none⟩ x).heap = w.heap := by
    apply Array.ext_getElem?
    intro k
    by_cases hk : k = b
    · subst hk
      rw [setCell_same h, h]
      congr 2
      apply Array.ext_getElem?
      intro j
      by_cases hj : i = j
      · subst hj
        rw [Array.getElem?_setIfInBounds_self, if_pos (Array.getElem?_eq_some_iff.1 hx).1, hx]
      · rw [Array.getElem?_setIfInBounds_ne hj]
    · exact setCell_other hk x
  have e2 : w.setCell ⟨b, i, none⟩ x = { w with heap := (w.setCell ⟨b, i, none⟩ x).heap } := rfl
  rw [e2, e]

section
variable {w w' : World} {S T : Nat → Prop} {rb : Nat} {D : Dsk} {fv : Value} {us : List Value}
theorem Rf.drewN (h : Rf w S rb D) (n : Nat) : Rf (w.drewN n) S rb D := h.step ((Fr.refl (fun _ => False) w).drewN n) (fun _ _ _ hf => hf) (fun _ _ hs => hs)
theorem RfAt.drewN (h : RfAt w S rb D fv us) (n : Nat) : RfAt (w.drewN n) S rb D fv us := h.step ((Fr.refl (fun _ => False) w).drewN n) (fun _ _ _ hf => hf) (fun _ _ hs => hs)
theorem Rf.lt (h : Rf w S rb D) : rb < w.heap.size := by
  obtain ⟨_, _, h⟩ := h
  exact h.lt
theorem Rf.srt (h : Rf w S rb D) : Srt D.files := by
  obtain ⟨_, _, h⟩ := h
  exact h.srt
theorem Rf.inS (h : Rf w S rb D) : S rb := by
  obtain ⟨_, _, h⟩ := h
  exact h.inS
theorem Rf.room (h : Rf w S rb D) : used D.files ≤ D.size ∧ D.size ≤ 1073741824 := by
  obtain ⟨_, _, h⟩ := h
  exact ⟨h.room, h.size⟩
theorem Rf.names (h : Rf w S rb D) : ∀ f ∈ D.files, f.name.length ≤ 64 := by
  obtain ⟨_, _, h⟩ := h
  exact h.names
/-- One file synced in its place. -/
theorem RfAt.syncAt {g cap : Nat} (h : RfAt w S rb D (.slice (some ⟨g, 0, none⟩) D.files.length cap) us) {s : List UInt8} {f : Fl} (hl : look s D.files = some f) :
    RfAt (w.setCell ⟨g, plc s D.files * 3 + 2, none⟩ (.int .i64 (f.data.length : Int))) S rb { D with files := put ⟨s, f.data, f.data.length⟩ D.files } (.slice (some ⟨g, 0, none⟩) D.files.length cap) (us.set (plc s D.files) (us.getD (plc s D.files) (.bool false))) ∧
    Fr S w (w.setCell ⟨g, plc s D.files * 3 + 2, none⟩ (.int .i64 (f.data.length : Int))) := by
  obtain ⟨hm, hn⟩ := look_some hl
  have hpa := plc_at h.srt hl
  obtain ⟨p, cap', e, _, _, hat⟩ := h.form
  obtain ⟨g', u, e2, d0, d1, d2, hu, hin⟩ := hat _ _ hpa
  injection e with e _ _
  obtain rfl : g = g' := by rw [e2] at e; simpa using e
  obtain ⟨cur, hcur⟩ := h.heap (k := g) rfl
  have x0 : cur[plc s D.files * 3]? = some (.string ⟨f.name.toArray⟩) := by simpa [World.cell?, hcur] using d0
  have x1 : cur[plc s D.files * 3 + 1]? = some u := by simpa [World.cell?, hcur] using d1
  have hset := set_put h.srt (f' := ⟨s, f.data, f.data.length⟩) hl
  have hus := used_same h.srt (f' := ⟨s, f.data, f.data.length⟩) hm hn.symm rfl
  obtain ⟨h1, h2⟩ := h.setAt (f' := ⟨s, f.data, f.data.length⟩) hpa (u := u) hin (Nat.le_refl _) (by rw [← hn]; exact h.names f hm) (by rw [show (s : List UInt8) = (⟨s, f.data, f.data.length⟩ : Fl).name from rfl, hset]; exact h.srt.put _) (by rw [show (s : List UInt8) = (⟨s, f.data, f.data.length⟩ : Fl).name from rfl, hset, hus]; exact h.room)
  have e3 : (w.setCell ⟨g, plc s D.files * 3, none⟩ (.string ⟨(⟨s, f.data, f.data.length⟩ : Fl).name.toArray⟩)).setCell ⟨g, plc s D.files * 3 + 1, none⟩ u = w := by
    rw [setCell_id hcur (by rw [x0, hn]), setCell_id hcur x1]
  rw [e3] at h1 h2
  have e4 : us.getD (plc s D.files) (.bool false) = u := by rw [List.getD_eq_getElem?_getD, hu]; rfl
  rw [e4]
  simp only at hset
  rw [hset] at h1
  exact ⟨h1, h2⟩
end

set_option maxHeartbeats 400000 in
theorem rread_none (w : World) (S : Nat → Prop) (rb : Nat) (D : Dsk) (h : Rf w S rb D) (s : List UInt8) (hn : look s D.files = none) :
    Calls Try.prog 19 #[.pointer (some ⟨rb, 0, none⟩), .string ⟨s.toArray⟩] w fun e w' => e = .returned (.tuple #[.slice none 0 0, .int .i64 4]) ∧ ∃ n, w' = w.drewN n := by
  have HF := find_any w S rb D h s
  rw [hn] at HF
  clear hn
  go_enter Try.func19, Try.ntmps19
  go_wp2_with fail
  refine HF.mono ?_
  rintro e w' ⟨rfl, n, rfl⟩
  go_wp2_with fail
  go_ret2
  exact ⟨rfl, n, rfl⟩
set_option maxHeartbeats 400000 in
theorem rread_some (w : World) (S : Nat → Prop) (rb : Nat) (D : Dsk) (h : Rf w S rb D) (s : List UInt8) (f : Fl) (hn : look s D.files = some f) :
    Calls Try.prog 19 #[.pointer (some ⟨rb, 0, none⟩), .string ⟨s.toArray⟩] w fun e w' => ∃ v, e = .returned (.tuple #[v, .int .i64 0]) ∧ InS S w v f.data ∧ ∃ n, w' = w.drewN n := by
  have HF := find_any w S rb D h s
  rw [hn] at HF
  obtain ⟨fv, us, h⟩ := h
  have hpa := plc_at h.srt hn
  have c1 := h.c1
  obtain ⟨P, hP⟩ : ∃ P, plc s D.files = P := ⟨_, rfl⟩
  rw [hP] at HF hpa
  have hlt := (List.getElem?_eq_some_iff.1 hpa).1
  obtain ⟨p, cap, rfl, hlc, hcm, hat⟩ := h.form
  obtain ⟨g, u, rfl, d0, d1, d2, hu, hin⟩ := hat P f hpa
  have HI := Lib.hid hin
  clear hat hpa hn hP h hin hu
  go_enter Try.func19, Try.ntmps19
  go_wp2_with fail
  refine HF.mono ?_
  rintro e w' ⟨rfl, n, rfl⟩
  clear HF
  go_wp2_with fail
  go_ret2
  exact ⟨_, rfl, HI.out, n, rfl⟩
set_option maxHeartbeats 400000 in
theorem runsynced_none (w : World) (S : Nat → Prop) (rb : Nat) (D : Dsk) (h : Rf w S rb D) (s : List UInt8) (hn : look s D.files = none) :
    Calls Try.prog 23 #[.pointer (some ⟨rb, 0, none⟩), .string ⟨s.toArray⟩] w fun e w' => e = .returned (.int .i64 0) ∧ ∃ n, w' = w.drewN n := by
  have HF := find_any w S rb D h s
  rw [hn] at HF
  clear hn
  go_enter Try.func23, Try.ntmps23
  go_wp2_with fail
  refine HF.mono ?_
  rintro e w' ⟨rfl, n, rfl⟩
  go_wp2_with fail
  go_ret
  exact ⟨rfl, n, rfl⟩
set_option maxHeartbeats 400000 in
theorem runsynced_some (w : World) (S : Nat → Prop) (rb : Nat) (D : Dsk) (h : Rf w S rb D) (s : List UInt8) (f : Fl) (hn : look s D.files = some f) :
    Calls Try.prog 23 #[.pointer (some ⟨rb, 0, none⟩), .string ⟨s.toArray⟩] w fun e w' => e = .returned (.int .i64 ((f.data.length - f.synced : Nat) : Int)) ∧ ∃ n, w' = w.drewN n := by
  have HF := find_any w S rb D h s
  rw [hn] at HF
  obtain ⟨fv, us, h⟩ := h
  have hpa := plc_at h.srt hn
  have hle := h.le f (look_some hn).1
  have c1 := h.c1
  obtain ⟨P, hP⟩ : ∃ P, plc s D.files = P := ⟨_, rfl⟩
  rw [hP] at HF hpa
  have hlt := (List.getElem?_eq_some_iff.1 hpa).1
  obtain ⟨p, cap, rfl, hlc, hcm, hat⟩ := h.form
  obtain ⟨g, u, rfl, d0, d1, d2, hu, hin⟩ := hat P f hpa
  obtain ⟨p2, cap2, rfl, hlc2, hl472, hcm2, hat2⟩ := hin.rd.form
  have esub : ((f.data.length - f.synced : Nat) : Int) = (f.data.length : Int) - (f.synced : Int) := by omega
  rw [esub]
  clear hat hpa hn hP h hin hu hat2 esub
  go_enter Try.func23, Try.ntmps23
  go_wp2_with fail
  refine HF.mono ?_
  rintro e w' ⟨rfl, n, rfl⟩
  clear HF
  go_wp2_with fail
  go_quiet (fail)
  go_wp2_with fail
  go_ret
  exact ⟨rfl, _, World.drewN_drewN _ _ _⟩
end Go.Proofs.Ytlekffhacmdnnaa
