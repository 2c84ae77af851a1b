/-
  The walk over tear: a front of what is not synced is kept.
-/
import Derived.Test.YtlbfgkocpjlamaaGreatDoorMadeW
namespace Go.Proofs.YtlbfgkocpjlamaaGreatDoor
open Go.RowKit

/-- How many of n bytes a pick keeps. -/
def kept (pick : Int) (n : Nat) : Nat := if pick ≤ 0 then 0 else pick.toNat % (n + 1)
theorem kept_le (pick : Int) (n : Nat) : kept pick n ≤ n := by
  unfold kept
  split
  · omega
  · have := Nat.mod_lt pick.toNat (show 0 < n + 1 by omega)
    omega
theorem kept_eq (pick : Int) (n : Nat) : max pick 0 % ((n : Int) + 1) = ((kept pick n : Nat) : Int) := by
  unfold kept
  split
  · rename_i h
    rw [show max pick 0 = 0 by omega]
    simp
  · rename_i h
    rw [show max pick 0 = ((pick.toNat : Nat) : Int) by omega]
    rfl
/-- A file behind a crash. -/
def torn (f : Fl) (pick : Int) : Fl := ⟨f.name, f.data.take (f.synced + kept pick (f.data.length - f.synced)), (f.data.take (f.synced + kept pick (f.data.length - f.synced))).length⟩

set_option maxRecDepth 100000 in
set_option maxHeartbeats 1000000 in
theorem tear_any (w : World) (S : Nat → Prop) (b : Nat) (v : Value) (f : Fl) (h : FileAt w S b v f) (hl : f.data.length ≤ 1073741824) (pick : Int) (hp : pick ≤ 9223372036854775807) (hp2 : -9223372036854775808 ≤ pick) :
    Calls Tryz.prog 31 #[.pointer (some ⟨b, 0, none⟩), .int .i64 pick] w fun e w' => e = .returned (.int .i64 ((f.data.length - f.synced - kept pick (f.data.length - f.synced) : Nat) : Int)) ∧
      ∃ v', FileAt w' (More S w.heap.size) b v' (torn f pick) ∧ (v'.ownBlock = v.ownBlock ∨ ∀ k, v'.ownBlock = some k → w.heap.size ≤ k) ∧ Fr (fun k => k = b) w w' := by
  have HU := Lib.hid (unsynced_any w S b v f h hl)
  have hle := h.le
  have hK := kept_le pick (f.data.length - f.synced)
  have ek : max pick 0 % (((f.data.length - f.synced : Nat) : Int) + 1) = ((kept pick (f.data.length - f.synced) : Nat) : Int) := kept_eq pick _
  obtain ⟨N, hN⟩ : ∃ N, f.data.length - f.synced = N := ⟨_, rfl⟩
  obtain ⟨K, hKK⟩ : ∃ K, kept pick N = K := ⟨_, rfl⟩
  rw [hN, hKK] at ek hK
  rw [hN] at HU
  have etorn : torn f pick = ⟨f.name, f.data.take (f.synced + K), (f.data.take (f.synced + K)).length⟩ := by unfold torn; rw [hN, hKK]
  rw [etorn, hN, hKK]
  have HH := Lib.hid h
  have c0 := h.c0
  have c1 := h.c1
  have z0 := h.fz 0
  have z1 := h.fz 1
  have hrd := h.own.rd (by omega)
  have hbl := h.lt
  obtain ⟨p, cap, rfl, hcap, hcm⟩ := h.own.form
  have hNL : f.synced + N = f.data.length := by omega
  have esub : ((N - K : Nat) : Int) = (N : Int) - (K : Int) := by omega
  have HE := Lib.hid esub
  have HTK : Hid ((f.data.take (f.synced + K)).length = f.synced + K) := Lib.hid (by rw [List.length_take]; omega)
  have HRD : Hid (Rd w w.heap.size (.slice p (f.synced + K) cap) (f.data.take (f.synced + K))) := Lib.hid (hrd.take (by omega))
  clear h hrd hN hKK etorn esub
  rw [HE.out]
  by_cases hlt : K < N
  · have ew : IntKind.i64.wrap ((f.synced : Int) + (K : Int)) = (f.synced : Int) + (K : Int) := IntWalk.i64_in _ (by omega)
    have ec : ((f.synced : Int) + (K : Int)).toNat = f.synced + K := by omega
    go_enter Tryz.func31, Tryz.ntmps31
    go_wp2_with fail
    refine HU.out.mono ?_
    rintro e w' ⟨rfl, n, rfl⟩
    go_wp2_with fail
    go_region_with (first
      | (go_at_call 32; refine (clone_any _ (f.data.take (f.synced + K)) _ ?_).mono ?_; (exact HRD.out.drewN _); rintro e w1 ⟨v1, rfl, ho, hb⟩; obtain ⟨n1, p1, cap1, rfl⟩ := ho.shape; have c0b := (below_cells hb b 0 hbl).trans c0; have z0b : w1.frozen? ⟨b, 0, none⟩ = false := (hb.frozen (p := ⟨b, 0, none⟩) hbl).trans z0; have HB := Lib.hid hb; have HO := Lib.hid ho; clear hb ho))
    all_goals
      have hb' : Below w.heap.size w w1 := ⟨HB.out.os, HB.out.tape, HB.out.output, HB.out.size, HB.out.block⟩
      have HCut := Lib.hid (HH.out.cut hb' HO.out (by rw [HTK.out]; omega))
      have HSync := Lib.hid HCut.out.1.synced
      have HSC := Lib.hid (sync_any _ _ b _ _ HCut.out.1)
      clear hb' ek c0 c1 z0 z1 c0b z0b
      go_wp2_with fail
      refine HSC.out.mono ?_
      rintro e w2 ⟨rfl, rfl⟩
      go_wp2_with fail
      go_ret
      rw [← List.length_take]
      exact ⟨rfl, _, HSync.out.1, .inr fun k hk => (World.ownsRow.lt HO.out k hk).1, HCut.out.2.then HSync.out.2⟩
  · have e2 : N = K := by omega
    have HE2 := Lib.hid e2
    have HT2 : Hid (f.data.take (f.synced + K) = f.data) := Lib.hid (List.take_of_length_le (by omega))
    have HS2 := Lib.hid HH.out.synced
    have hd : decide ((K : Int) < (N : Int)) = false := by simp; omega
    clear e2
    go_enter Tryz.func31, Tryz.ntmps31
    go_wp2_with fail
    refine HU.out.mono ?_
    rintro e w' ⟨rfl, n, rfl⟩
    go_wp2_with fail
    refine (sync_any (w.drewN n) S b _ f (HH.out.keep rfl (fun _ _ => rfl) (fun _ _ hs => hs))).mono ?_
    rintro e w2 ⟨rfl, rfl⟩
    go_wp2_with fail
    go_ret
    rw [HT2.out]
    exact ⟨rfl, _, HS2.out.1.keep rfl (fun _ _ => rfl) (fun _ _ hs => .inl hs), .inl rfl, ((Fr.refl (fun k => k = b) w).drewN n).then (Fr.setCell (fun k => k = b) _ (p := ⟨b, 1, none⟩) (show b = b from rfl) _)⟩
end Go.Proofs.YtlbfgkocpjlamaaGreatDoor
