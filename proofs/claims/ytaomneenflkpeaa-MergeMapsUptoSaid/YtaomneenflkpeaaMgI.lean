/-
  The walk over glacierlaw6.known: the chapter's example.
-/
import Derived.Test.YtaomneenflkpeaaMgH
import Derived.Lib.SlBytesConst
namespace Go.Proofs.Ytaomneenflkpeaa
open Go.RowKit

def ke1 : Ent := ⟨[97], 5, false, [120]⟩
def ke2 : Ent := ⟨[97], 3, false, [121]⟩
def ke3 : Ent := ⟨[97], 1, false, [122]⟩
def ke4 : Ent := ⟨[98], 2, true, []⟩
def keL : List Ent := [ke1, ke2, ke3, ke4]
theorem ke_right : rightE keL = true := by kernel_rfl
theorem ke_seen : seenE keL 4 = [ke2] := by kernel_rfl
theorem ke_prnF : prnE keL 3 false = [ke1, ke2, ke4] := by kernel_rfl
theorem ke_prnT : prnE keL 3 true = [ke1, ke2] := by kernel_rfl
theorem byte_by (w : World) (F : Nat → Prop) (b : UInt8) (hF : F w.heap.size) : By (w.alloc (.cells #[.int .u8 (b.toNat : Int)] 5 (1, 2))) F (.slice (some ⟨w.heap.size, 0, none⟩) 1 1) [b] := by
  refine ⟨_, _, rfl, Nat.le_refl _, by simp, by simp, (fun e => by cases e), fun j x hx => ⟨w.heap.size, 0, rfl, by simp, hF, ?_⟩⟩
  rw [Nat.zero_add]
  exact cell_of (heap_alloc_new w _) (by simpa [bs, bv] using hx)

set_option maxRecDepth 100000 in
set_option maxHeartbeats 2000000 in
theorem mg_known (w : World) : Calls Try.prog 16 #[] w fun r W' => r = .returned (.bool true) ∧ Below w.heap.size w W' := by
  have kc := fun (w : World) (C : Array Value) (n c : Nat) => Lib.run_convert_bytes_const (P := Try.prog) w 28 5 C n c Try.underlying28 Try.underlying5
  obtain ⟨A1, hA1⟩ : ∃ A1, w.alloc (.cells #[.int .u8 120] 5 (1, 2)) = A1 := ⟨_, rfl⟩
  obtain ⟨A2, hA2⟩ : ∃ A2, A1.alloc (.cells #[.int .u8 121] 5 (1, 2)) = A2 := ⟨_, rfl⟩
  obtain ⟨A3, hA3⟩ : ∃ A3, A2.alloc (.cells #[.int .u8 122] 5 (1, 2)) = A3 := ⟨_, rfl⟩
  have b1 : Below w.heap.size w A1 := by rw [← hA1]; exact (Below.refl _ _).alloc (Nat.le_refl _) _
  have b2 : Below A1.heap.size A1 A2 := by rw [← hA2]; exact (Below.refl _ _).alloc (Nat.le_refl _) _
  have b3 : Below A2.heap.size A2 A3 := by rw [← hA3]; exact (Below.refl _ _).alloc (Nat.le_refl _) _
  have v1 : By A1 (fun _ => True) (.slice (some ⟨w.heap.size, 0, none⟩) 1 1) [120] := by rw [← hA1]; exact byte_by w _ 120 trivial
  have v2 : By A2 (fun _ => True) (.slice (some ⟨A1.heap.size, 0, none⟩) 1 1) [121] := by rw [← hA2]; exact byte_by A1 _ 121 trivial
  have v3 : By A3 (fun _ => True) (.slice (some ⟨A2.heap.size, 0, none⟩) 1 1) [122] := by rw [← hA3]; exact byte_by A2 _ 122 trivial
  obtain ⟨W1, hW1⟩ : ∃ W1, A3.alloc (.cells #[.string ⟨#[97]⟩, .int .u64 5, .bool false, .slice (some ⟨w.heap.size, 0, none⟩) 1 1, .string ⟨#[97]⟩, .int .u64 3, .bool false, .slice (some ⟨A1.heap.size, 0, none⟩) 1 1, .string ⟨#[97]⟩, .int .u64 1, .bool false, .slice (some ⟨A2.heap.size, 0, none⟩) 1 1, .string ⟨#[98]⟩, .int .u64 2, .bool true, .slice none 0 0] 30) = W1 := ⟨_, rfl⟩
  have b4 : Below A3.heap.size A3 W1 := by rw [← hW1]; exact (Below.refl _ _).alloc (Nat.le_refl _) _
  have hEn : En W1 (fun _ => True) (.slice (some ⟨A3.heap.size, 0, none⟩) 4 4) keL := by
    refine ⟨[.slice (some ⟨w.heap.size, 0, none⟩) 1 1, .slice (some ⟨A1.heap.size, 0, none⟩) 1 1, .slice (some ⟨A2.heap.size, 0, none⟩) 1 1, .slice none 0 0], rfl, ?_, ?_⟩
    · rw [← hW1]
      exact Cl.new A3 _ 4 _ _ _ rfl (by omega) trivial
    · intro k e u h1 h2
      match k with
      | 0 => obtain rfl := Option.some.inj h1; obtain rfl := Option.some.inj h2; exact ((v1.below b2).below b3).below b4
      | 1 => obtain rfl := Option.some.inj h1; obtain rfl := Option.some.inj h2; exact (v2.below b3).below b4
      | 2 => obtain rfl := Option.some.inj h1; obtain rfl := Option.some.inj h2; exact v3.below b4
      | 3 => obtain rfl := Option.some.inj h1; obtain rfl := Option.some.inj h2; exact By.nil _ _
      | k + 4 => simp [keL] at h1
  have hfit : ∀ e ∈ keL, FitE e := by
    intro e he
    simp only [keL, List.mem_cons, List.not_mem_nil, or_false] at he
    rcases he with rfl | rfl | rfl | rfl <;> exact ⟨by decide, by decide, by decide⟩
  have HBW : Hid (Below w.heap.size w W1) := Lib.hid (b1.trans ((b2.trans ((b3.trans (b4.mono b3.size)).mono b2.size)).mono b1.size))
  have HEn := Lib.hid hEn
  have HFit := Lib.hid hfit
  have hSeen := mg_seen W1 _ _ keL hEn ke_right hfit (by decide) 4
  rw [ke_seen] at hSeen
  have HSeen := Lib.hid hSeen
  have HPrF : Hid (∀ V, Below W1.heap.size W1 V → Calls Try.prog 34 #[.slice (some ⟨A3.heap.size, 0, none⟩) 4 4, .int .u64 3, .bool false] V fun r w' => ∃ u, r = .returned (.tuple #[u, .int .i64 0]) ∧ En w' (fun k => V.heap.size ≤ k) u [ke1, ke2, ke4] ∧ Below V.heap.size V w') := Lib.hid (fun V hV => by
    have h := mg_prune V _ _ keL (hEn.below hV) ke_right hfit (by decide) 3 false
    rw [ke_prnF] at h
    exact h)
  have HPrT : Hid (∀ V, Below W1.heap.size W1 V → Calls Try.prog 34 #[.slice (some ⟨A3.heap.size, 0, none⟩) 4 4, .int .u64 3, .bool true] V fun r w' => ∃ u, r = .returned (.tuple #[u, .int .i64 0]) ∧ En w' (fun k => V.heap.size ≤ k) u [ke1, ke2] ∧ Below V.heap.size V w') := Lib.hid (fun V hV => by
    have h := mg_prune V _ _ keL (hEn.below hV) ke_right hfit (by decide) 3 true
    rw [ke_prnT] at h
    exact h)
  have HRt : Hid (∀ V, Below W1.heap.size W1 V → Calls Try.prog 17 #[.slice (some ⟨A3.heap.size, 0, none⟩) 4 4] V fun r w' => r = .returned (.bool true) ∧ Below V.heap.size V w') := Lib.hid (fun V hV => by
    have h := mg_right V _ _ keL (hEn.below hV)
    rw [ke_right] at h
    exact h)
  clear b1 b2 b3 b4 v1 v2 v3 hEn hfit hSeen
  go_enter Try.func16, Try.ntmps16
  go_wp2_with fail
  refine HSeen.out.mono ?_
  rintro r w2 ⟨us, rfl, hes, hb2⟩
  obtain ⟨ps, cs, rfl, hs1, hs2, hs3, _⟩ := hes.form
  obtain ⟨g1, o1, q1, c1, hps, hg1, _, _, d0, d1, d2, d3⟩ := hes.at_ (k := 0) rfl
  subst hps
  have HD1 := Lib.hid (And.intro hg1 d1)
  have HB2 := Lib.hid hb2
  clear hes hb2 HSeen d0 d1 d2 d3 hg1
  go_wp2_with fail
  refine (HPrF.out _ HB2.out).mono ?_
  rintro r w3 ⟨u3, rfl, he3, hb3⟩
  obtain ⟨p3, k3, rfl, hp1, hp2, hp3, _⟩ := he3.form
  have HB3 : Hid (Below W1.heap.size W1 w3 ∧ Below w2.heap.size w2 w3) := Lib.hid ⟨HB2.out.trans (hb3.mono HB2.out.size), hb3⟩
  clear he3 hb3
  go_wp2_with fail
  refine (HPrT.out _ HB3.out.1).mono ?_
  rintro r w4 ⟨u4, rfl, he4, hb4⟩
  obtain ⟨p4, k4, rfl, ht1, ht2, ht3, _⟩ := he4.form
  have HB4 : Hid (Below W1.heap.size W1 w4) := Lib.hid (HB3.out.1.trans (hb4.mono HB3.out.1.size))
  have e1 := ((HB3.out.2.trans (hb4.mono HB3.out.2.size)).cell (p := ⟨g1, o1 + 0 * 4 + 1, none⟩) HD1.out.1).trans HD1.out.2
  simp only [Nat.zero_mul, Nat.add_zero] at e1
  clear he4 hb4
  go_wp2_with fail
  refine (HRt.out _ HB4.out).mono ?_
  rintro r w5 ⟨rfl, hb5⟩
  have HB5 := Lib.hid (HBW.out.trans ((HB4.out.trans (hb5.mono HB4.out.size)).mono HBW.out.size))
  clear hb5 e1
  go_wp2_with fail
  go_ret
  exact ⟨rfl, HB5.out⟩
end Go.Proofs.Ytaomneenflkpeaa
