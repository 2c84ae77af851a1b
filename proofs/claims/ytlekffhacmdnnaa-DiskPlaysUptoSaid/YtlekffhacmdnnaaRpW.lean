/-
  The walk over the reference's put.
-/
import Derived.Test.YtlekffhacmdnnaaRnm
namespace Go.Proofs.Ytlekffhacmdnnaa
open Go.RowKit

/-- One file changed in its place. -/
theorem RfAt.setAt {w : World} {S : Nat → Prop} {rb : Nat} {D : Dsk} {g cap : Nat} {us : List Value} (h : RfAt w S rb D (.slice (some ⟨g, 0, none⟩) D.files.length cap) us) {P : Nat} {f f' : Fl} {u : Value} (hP : D.files[P]? = some f) (hu : InS S w u f'.data) (hle : f'.synced ≤ f'.data.length) (hnm : f'.name.length ≤ 64)
    (hsrt : Srt (D.files.set P f')) (hroom : used (D.files.set P f') ≤ D.size) :
    RfAt (((w.setCell ⟨g, P * 3, none⟩ (.string ⟨f'.name.toArray⟩)).setCell ⟨g, P * 3 + 1, none⟩ u).setCell ⟨g, P * 3 + 2, none⟩ (.int .i64 (f'.synced : Int))) S rb { D with files := D.files.set P f' } (.slice (some ⟨g, 0, none⟩) D.files.length cap) (us.set P u) ∧
    Fr S w (((w.setCell ⟨g, P * 3, none⟩ (.string ⟨f'.name.toArray⟩)).setCell ⟨g, P * 3 + 1, none⟩ u).setCell ⟨g, P * 3 + 2, none⟩ (.int .i64 (f'.synced : Int))) := by
  obtain ⟨r1, _⟩ := h.row.stored (P * 3) (.string ⟨f'.name.toArray⟩)
  obtain ⟨r2, _⟩ := r1.stored (P * 3 + 1) u
  obtain ⟨r3, _⟩ := r2.stored (P * 3 + 2) (.int .i64 (f'.synced : Int))
  have hlt := (List.getElem?_eq_some_iff.1 hP).1
  rw [cellsF_set _ _ _ _ _ h.len hlt] at r3
  have hgS : S g := h.inRow g rfl
  obtain ⟨cur, hcur⟩ := h.heap (k := g) rfl
  have hf : Fr (fun k => k = g) w (((w.setCell ⟨g, P * 3, none⟩ (.string ⟨f'.name.toArray⟩)).setCell ⟨g, P * 3 + 1, none⟩ u).setCell ⟨g, P * 3 + 2, none⟩ (.int .i64 (f'.synced : Int))) :=
    (((Fr.refl (fun k => k = g) w).then (Fr.setCell (fun k => k = g) w (p := ⟨g, P * 3, none⟩) rfl _)).then (Fr.setCell (fun k => k = g) _ (p := ⟨g, P * 3 + 1, none⟩) rfl _)).then (Fr.setCell (fun k => k = g) _ (p := ⟨g, P * 3 + 2, none⟩) rfl _)
  have hrb : rb ≠ g := kind_ne h.blk hcur (by decide)
  refine ⟨⟨hf.keep h.blk hrb, ?_, by simp [h.len], fun k f1 u1 h1 h2 => ?_, ?_, hsrt, ?_, hroom, h.size, h.inS, h.inRow⟩, hf.mono fun k _ e => by subst e; exact hgS⟩
  · simpa using r3
  · have hin : InS S w u1 f1.data := by
      rw [List.getElem?_set] at h1 h2
      by_cases e : P = k
      · subst e
        rw [if_pos rfl, if_pos hlt] at h1
        rw [if_pos rfl, if_pos (by rw [h.len]; exact hlt)] at h2
        obtain rfl := Option.some.inj h1
        obtain rfl := Option.some.inj h2
        exact hu
      · rw [if_neg e] at h1 h2
        exact h.bytes k f1 u1 h1 h2
    refine hin.keep (fun j hj => ?_) (fun _ _ hs => hs)
    obtain ⟨cur2, hc2⟩ := hin.1.heap hj
    exact hf.block j (block_lt hc2) (kind_ne hc2 hcur (by decide))
  · intro f1 hf1
    rcases List.mem_or_eq_of_mem_set hf1 with h1 | rfl
    · exact h.le f1 h1
    · exact hle
  · intro f1 hf1
    rcases List.mem_or_eq_of_mem_set hf1 with h1 | rfl
    · exact h.names f1 h1
    · exact hnm

set_option maxRecDepth 100000 in
set_option maxHeartbeats 2000000 in
theorem rput_some (w : World) (S : Nat → Prop) (rb : Nat) (D : Dsk) (h : Rf w S rb D) (f f' : Fl) (u : Value) (hu : InS S w u f'.data) (hn : look f'.name D.files = some f) (hle : f'.synced ≤ f'.data.length) (hnm : f'.name.length ≤ 64) (hroom : used (put f' D.files) ≤ D.size) :
    Calls Try.prog 57 #[.pointer (some ⟨rb, 0, none⟩), .agg #[.string ⟨f'.name.toArray⟩, u, .int .i64 (f'.synced : Int)]] w fun e w' => e = .returned (.tuple #[]) ∧ Rf w' (More S w.heap.size) rb { D with files := put f' D.files } ∧ Fr S w w' := by
  obtain ⟨p0, cap0, rfl, hl0, hu0, hv0, hc0⟩ := hu.rd.form
  have HF0 : ∀ w1, Below w.heap.size w w1 → Rf w1 S rb D := fun w1 hb => h.after hb
  obtain ⟨fv, us, h⟩ := h
  obtain ⟨p, cap, rfl, hlc, hcm, hat⟩ := h.form
  have hpa := plc_at h.srt hn
  have hset := set_put h.srt hn
  obtain ⟨P, hP⟩ : ∃ P, plc f'.name D.files = P := ⟨_, rfl⟩
  rw [hP] at hpa hset
  have hlt := (List.getElem?_eq_some_iff.1 hpa).1
  obtain ⟨g, u1, rfl, d0, d1, d2, _, _⟩ := hat P _ hpa
  clear hat
  obtain ⟨cur, hcur⟩ := h.heap (k := g) rfl
  obtain ⟨W, hW⟩ : ∃ W, w.alloc (.cells #[.string ⟨f'.name.toArray⟩, .slice p0 f'.data.length cap0, .int .i64 (f'.synced : Int)] 73) = W := ⟨_, rfl⟩
  have hB : Below w.heap.size w W := by rw [← hW]; exact (Below.refl _ w).alloc (Nat.le_refl _) _
  have hglt := block_lt hcur
  have e1 : ∀ k, k < 3 → (w.alloc (.cells #[.string ⟨f'.name.toArray⟩, .slice p0 f'.data.length cap0, .int .i64 (f'.synced : Int)] 73)).frozen? ⟨g, P * 3 + k, none⟩ = false := fun k _ => by
    rw [hW]
    exact (hB.frozen (p := ⟨g, P * 3 + k, none⟩) hglt).trans (frozen_of hcur)
  have z0 := e1 0 (by omega)
  have z1 := e1 1 (by omega)
  have z2 := e1 2 (by omega)
  have x0 := (below_cells hB g _ hglt).trans d0
  have x1 := (below_cells hB g _ hglt).trans d1
  have x2 := (below_cells hB g _ hglt).trans d2
  have c1 := (below_cells hB rb 1 h.lt).trans h.c1
  rw [← hW] at x0 x1 x2 c1
  rw [Nat.add_zero] at z0
  have HH := Lib.hid (h.after (w' := W) hB)
  have HHlt := Lib.hid h.lt
  have HU := Lib.hid (hu.keep (w' := W) (S' := S) (fun j hj => hB.block j (by obtain ⟨c, hc⟩ := hu.1.heap hj; exact block_lt hc)) (fun _ _ hs => hs))
  have HSet := Lib.hid hset
  have HPa := Lib.hid hpa
  have HB := Lib.hid hB
  have HF := find_any W S rb D (HF0 W hB) f'.name
  rw [hP, hn] at HF
  rw [← hW] at HF
  have HW := Lib.hid hW
  have hsrt := Lib.hid (h.srt.put f')
  clear h hu hset hpa hP hn hc0 d0 d1 d2 hB e1 hcur hW HF0 hglt
  go_enter Try.func57, Try.ntmps57
  go_wp2_with fail
  refine HF.mono ?_
  rintro e w' ⟨rfl, n, rfl⟩
  clear HF
  go_wp2_with fail
  go_region
  all_goals
    go_wp2
    try simp only [Exit.inBlock, Exit.then]
    refine bodyPost_ret (results_none rfl _ _ _) rfl ?_
    rw [HW.out]
    have hD := HH.out.step (((Fr.refl (fun _ => False) W).drewN (n + 1))) (fun _ _ _ hf => hf) (S' := S) (fun _ _ hs => hs)
    obtain ⟨h1, h2⟩ := hD.setAt (f' := f') HPa.out (HU.out.keep (w' := W.drewN (n + 1)) (fun _ _ => rfl) (fun _ _ hs => hs)) hle hnm (by rw [HSet.out]; exact hsrt.out) (by rw [HSet.out]; exact hroom)
    rw [HSet.out] at h1
    have h3 : Fr S w (W.drewN (n + 1)) := (Fr.of_new HB.out S).drewN _
    exact ⟨rfl, ⟨_, _, h1.step (Fr.refl (fun _ => False) _) (fun _ _ _ hf => hf) (fun _ _ hs => .inl hs)⟩, h3.then h2⟩
end Go.Proofs.Ytlekffhacmdnnaa
