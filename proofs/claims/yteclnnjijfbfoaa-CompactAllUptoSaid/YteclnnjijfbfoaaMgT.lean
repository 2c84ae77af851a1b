/-
  The walks over merge.each, each's source.
-/
import Derived.Test.YteclnnjijfbfoaaMgS
import Derived.Test.YteclnnjijfbfoaaEnH
namespace Go.Proofs.Yteclnnjijfbfoaa
open Go.RowKit

theorem En.tail4 {w : World} {F : Nat → Prop} {b off c : Nat} {x : Ent} {t : List Ent} (h : En w F (.slice (some ⟨b, off, none⟩) (t.length + 1) c) (x :: t)) :
    En w F (.slice (some ⟨b, off + 4, none⟩) t.length (c - 1)) t ∧ (c = 1 → En w F (.slice (some ⟨b, off, none⟩) t.length 0) t) := by
  obtain ⟨us, hu⟩ := h
  obtain ⟨p, cap, e, h1, h2, h3, _, h5⟩ := hu.cl
  injection e with e1 e2 e3
  subst e1 e3
  simp only [List.length_cons] at h1 h2
  match us, hu.len, hu.val, h5 with
  | u :: us, hl, hv, h5 =>
    refine ⟨⟨us, by simpa using hl, ⟨_, _, rfl, by omega, by omega, by omega, (fun e => by cases e), fun j y hj => ?_⟩, fun k e u' he hu' => hv (k + 1) e u' (by simpa using he) (by simpa using hu')⟩, fun hc => ?_⟩
    · obtain ⟨b', off', e, h6, h7, h8⟩ := h5 (j + 4) y (by simpa [cellsE] using hj)
      injection e with e
      injection e with e1 e2 _
      subst e1 e2
      exact ⟨_, _, rfl, h6, h7, by rw [← h8]; congr 2; omega⟩
    · have ht : t = [] := by cases t with
        | nil => rfl
        | cons _ _ => simp at h1; omega
      subst ht
      exact ⟨[], rfl, ⟨_, _, rfl, Nat.le_refl _, by simp, by omega, (fun e => by cases e), fun j y hj => by simp [cellsE] at hj⟩, fun k e u h => by simp at h⟩
theorem two_on (w : World) (R L : Obj) : ((w.alloc R).alloc L).heap[w.heap.size]? = some R := (alloc_old (by simp) _).trans (heap_alloc_new w _)

set_option maxRecDepth 100000 in
set_option maxHeartbeats 2000000 in
theorem q_each (w : World) (p : Option Addr) (n c : Nat) : Calls Try.prog 30 #[.slice p n c] w fun r w' => r = .returned (srcV w.heap.size) ∧ w' = w.alloc (.cells #[.slice p n c] 26) := by
  go_enter Try.func30, Try.ntmps30
  go_wp2_with fail
  go_ret
  exact ⟨rfl, rfl⟩

set_option maxRecDepth 100000 in
set_option maxHeartbeats 2000000 in
theorem q_next_no (w : World) (bl : Nat) (p : Option Addr) (c : Nat) (hb : w.heap[bl]? = some (.cells #[.slice p 0 c] 26 (0, 0))) :
    Calls Try.prog 47 #[.pointer (some ⟨bl, 0, none⟩)] w fun r w' => r = .returned (.tuple #[.agg #[.string ⟨#[]⟩, .int .u64 0, .bool false, .slice none 0 0], .bool false]) ∧ Below w.heap.size w w' := by
  have k0 := cell_of (i := 0) hb rfl
  have hbl := block_lt hb
  clear hb
  go_enter Try.func47, Try.ntmps47
  go_wp2_with fail
  exact bodyPost_ret (v := .tuple #[.agg #[.string ⟨#[]⟩, .int .u64 0, .bool false, .slice none 0 0], .bool false]) (results_ent rfl _ _ w.heap.size _ _ rfl rfl (two_on w _ _) rfl) rfl ⟨rfl, ((Below.refl _ _).alloc (Nat.le_refl _) _).alloc (by simp) _⟩

set_option maxRecDepth 100000 in
set_option maxHeartbeats 2000000 in
theorem q_next (w : World) (F : Nat → Prop) (bl : Nat) (p : Option Addr) (c : Nat) (x : Ent) (t : List Ent) (hb : w.heap[bl]? = some (.cells #[.slice p (t.length + 1) c] 26 (0, 0))) (hE : En w F (.slice p (t.length + 1) c) (x :: t)) (hF : ¬ F bl) :
    Calls Try.prog 47 #[.pointer (some ⟨bl, 0, none⟩)] w fun r w' => ∃ q c1 p1 c2, r = .returned (.tuple #[.agg #[.string ⟨x.key.toArray⟩, .int .u64 (x.seq : Int), .bool x.gone, .slice q x.val.length c1], .bool true]) ∧
      By w' F (.slice q x.val.length c1) x.val ∧ w'.heap[bl]? = some (.cells #[.slice p1 t.length c2] 26 (0, 0)) ∧ En w' F (.slice p1 t.length c2) t ∧ Fr (fun k => k = bl) w w' := by
  obtain ⟨b1, off1, q1, c1, rfl, hb1, hbF, hV1, d0, d1, d2, d3⟩ := hE.at_ (k := 0) rfl
  have hE1 := hE.tail4
  simp only [Nat.zero_mul, Nat.add_zero] at d0 d1 d2 d3
  have k0 := cell_of (i := 0) hb rfl
  have f0 := frozen_of (i := 0) hb
  have hbl := block_lt hb
  have hne : bl ≠ b1 := fun e => hF (e ▸ hbF)
  obtain ⟨hlc, hl47, hcm⟩ : t.length + 1 ≤ c ∧ t.length + 1 ≤ 140737488355328 ∧ c ≤ 9223372036854775807 := by
    obtain ⟨_, _, e, h1, h2, h3, _⟩ := hE.form
    injection e with _ _ e
    subst e
    exact ⟨h1, h2, h3⟩
  have HE1 := Lib.hid hE1
  have HV1 := Lib.hid hV1
  have Hb := Lib.hid hb
  have HFb := Lib.hid hF
  clear hE hE1 hV1 hb hF
  go_enter Try.func47, Try.ntmps47
  have hsz : ∀ v, (w.setCell ⟨bl, 0, none⟩ v).heap.size = w.heap.size := fun v => by simp [World.setCell]
  have hfin : ∀ (v : Value) (R : Obj), Fr (fun k => k = bl) w (((w.setCell ⟨bl, 0, none⟩ v).alloc R).alloc R) ∧ (((w.setCell ⟨bl, 0, none⟩ v).alloc R).alloc R).heap[w.heap.size]? = some R ∧ (((w.setCell ⟨bl, 0, none⟩ v).alloc R).alloc R).heap[bl]? = some (.cells #[v] 26 (0, 0)) := fun v R => by
    refine ⟨((Fr.setCell (fun k => k = bl) w (p := ⟨bl, 0, none⟩) rfl v).alloc _).alloc _, ?_, ?_⟩
    · have h1 := two_on (w.setCell ⟨bl, 0, none⟩ v) R R
      rw [hsz] at h1
      exact h1
    · exact (alloc_old (by rw [World.size_alloc, hsz]; omega) _).trans ((alloc_old (by rw [hsz]; omega) _).trans (setCell_same (off := 0) Hb.out v))
  have HFin := Lib.hid hfin
  clear hsz hfin
  go_wp2_with fail
  · obtain ⟨h1, h2, h3⟩ := HFin.out (.slice (some ⟨b1, off1, none⟩) t.length 0) (.cells #[.string ⟨x.key.toArray⟩, .int .u64 (x.seq : Int), .bool x.gone, .slice q1 x.val.length c1] 33)
    exact bodyPost_ret (v := .tuple #[.agg #[.string ⟨x.key.toArray⟩, .int .u64 (x.seq : Int), .bool x.gone, .slice q1 x.val.length c1], .bool true]) (results_ent rfl _ _ w.heap.size _ _ rfl rfl h2 rfl) rfl
      ⟨_, _, rfl, HV1.out.step h1 (fun k _ hk e => HFb.out (e ▸ hk)), _, _, h3, (HE1.out.2 (by first | rfl | assumption | omega)).step h1 (fun k _ hk e => HFb.out (e ▸ hk)), h1⟩
  · obtain ⟨h1, h2, h3⟩ := HFin.out (.slice (some ⟨b1, off1 + 4, none⟩) t.length (c - 1)) (.cells #[.string ⟨x.key.toArray⟩, .int .u64 (x.seq : Int), .bool x.gone, .slice q1 x.val.length c1] 33)
    exact bodyPost_ret (v := .tuple #[.agg #[.string ⟨x.key.toArray⟩, .int .u64 (x.seq : Int), .bool x.gone, .slice q1 x.val.length c1], .bool true]) (results_ent rfl _ _ w.heap.size _ _ rfl rfl h2 rfl) rfl
      ⟨_, _, rfl, HV1.out.step h1 (fun k _ hk e => HFb.out (e ▸ hk)), _, _, h3, HE1.out.1.step h1 (fun k _ hk e => HFb.out (e ▸ hk)), h1⟩
end Go.Proofs.Yteclnnjijfbfoaa
