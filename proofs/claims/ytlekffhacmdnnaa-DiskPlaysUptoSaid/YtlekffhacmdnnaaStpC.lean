/-
  The walk over step: what appends.
-/
import Derived.Test.YtlekffhacmdnnaaStpA
import Derived.Test.YtlekffhacmdnnaaIv
namespace Go.Proofs.Ytlekffhacmdnnaa
open Go.RowKit

theorem elemU8 : Try.prog.elem 33 = 5 := by simp [Program.elem, Try.underlying33]
theorem underU8 : Try.prog.underlying 33 = some (.slice (Try.prog.elem 33)) := by rw [elemU8]; exact Try.underlying33
theorem sizeU8 (w : World) : (Go.sizeOf 5).run Try.prog w = .ok 1 w := by kernel_rfl
/-- The first bytes of a slice. -/
theorem RdV.cut {w : World} {S : Nat → Prop} {v : Value} {xs : List Value} (h : RdV w S v xs) {k : Nat} (hk : k ≤ xs.length) :
    ∃ p c, RdV w S (.slice p k c) (xs.take k) ∧ ∀ W, (Instr.slice 33 v none (some (.int .i64 (k : Int))) none).run Try.prog W = .ok (.slice p k c) W := by
  obtain ⟨p, cap, rfl, h1, h2, h3, h4, h5⟩ := h
  refine ⟨p, cap, ⟨p, cap, by rw [List.length_take, Nat.min_eq_left hk], by rw [List.length_take]; omega, by rw [List.length_take]; omega, h3, h4, fun j x hx => h5 j x ?_⟩, fun W => ?_⟩
  · have hj := (List.getElem?_eq_some_iff.1 hx).1
    rw [List.length_take] at hj
    rw [List.getElem?_take_of_lt (by omega)] at hx
    exact hx
  · rw [run_slice_h W 33 _ _ _ underU8 .i64 _ (by omega) (by omega), elemU8, sizeU8]
    simp only [Result.andThen, sliced]
    rw [show ((k : Int)).toNat = k from by omega]
    by_cases hc : cap = 0
    · rw [if_pos hc]; simp
    · rw [if_neg hc]
      cases p with
      | none => simp
      | some a => cases a; simp [Addr.add]
theorem RdV.tail {w : World} {S : Nat → Prop} {v : Value} {xs : List Value} (h : RdV w S v xs) {k : Nat} (hk : k ≤ xs.length) :
    ∃ p c, RdV w S (.slice p (xs.length - k) c) (xs.drop k) ∧ ∀ W, (Instr.slice 33 v (some (.int .i64 (k : Int))) none none).run Try.prog W = .ok (.slice p (xs.length - k) c) W := by
  obtain ⟨p, cap, rfl, h1, h2, h3, h4, h5⟩ := h
  refine ⟨if cap = k then p else p.map (·.add (k * 1)), cap - k, ⟨_, _, by rw [List.length_drop], by rw [List.length_drop]; omega, by rw [List.length_drop]; omega, by omega, fun hp => ?_, fun j x hx => ?_⟩, fun W => ?_⟩
  · split at hp
    · omega
    · have : p = none := by
        cases p with
        | none => rfl
        | some a => cases hp
      have := h4 this
      omega
  · have hj := (List.getElem?_eq_some_iff.1 hx).1
    rw [List.length_drop] at hj
    rw [List.getElem?_drop] at hx
    obtain ⟨b, off, rfl, hlt, hs, hc⟩ := h5 _ x hx
    refine ⟨b, off + k, ?_, hlt, hs, by rw [Nat.add_assoc]; exact hc⟩
    rw [if_neg (by omega)]
    simp [Addr.add_mid]
  · rw [run_slice_l W 33 _ _ _ underU8 .i64 _ (by omega) (by omega), elemU8, sizeU8]
    simp only [Result.andThen, sliced]
    rw [show ((k : Int)).toNat = k from by omega]
theorem parts2 {w : World} {S : Nat → Prop} {u1 u2 : Value} {l1 l2 : List UInt8} (h1 : RdV w S u1 (bs l1)) (h2 : RdV w S u2 (bs l2)) (t : TypeId) (hS : ¬ S w.heap.size) :
    RdW (w.alloc (.cells #[u1, u2] t)) S (.slice (some ⟨w.heap.size, 0, none⟩) 2 2) [l1, l2] :=
  ⟨[u1, u2], rfl, RdV.new w S [u1, u2] t (0, 0) (by simp) hS, fun k u l hu hl => by
    match k with
    | 0 =>
      obtain rfl : u1 = u := by simpa using hu
      obtain rfl : l1 = l := by simpa using hl
      exact h1.after _
    | 1 =>
      obtain rfl : u2 = u := by simpa using hu
      obtain rfl : l2 = l := by simpa using hl
      exact h2.after _
    | n + 2 => simp at hu⟩
set_option maxRecDepth 100000 in
set_option maxHeartbeats 4000000 in
theorem step_1 (w : World) (S : Nat → Prop) (db rb : Nat) (D E : Dsk) (hp : Pair S w db rb D E) (nv bv pv : Value) (x : PAct) (hA : ActC w S nv bv pv x) (hx : FitA x) (hop : x.op = 1) (hD : D.files.length ≤ 1099511627774) (hE : E.files.length ≤ 1099511627774) :
    Calls Try.prog 12 #[.pointer (some ⟨db, 0, none⟩), .pointer (some ⟨rb, 0, none⟩), actV x nv bv pv] w fun e w' => e = .returned (.bool ((ansApp D x.name x.bytes : Int) == (ansApp E x.name x.bytes : Int))) ∧ Pair (More S w.heap.size) w' db rb (actApp D x.name x.bytes) (actApp E x.name x.bytes) ∧ Fr S w w' := by
  have hbx := box_of hp hA
  obtain ⟨n1, n2, n3, hnv⟩ : ∃ a b c, nv = .slice a b c := by obtain ⟨p, c, e, _⟩ := hA.names.form; exact ⟨_, _, _, e⟩
  obtain ⟨b1, b2, b3, hbv⟩ : ∃ a b c, bv = .slice a b c := by obtain ⟨p, c, e, _⟩ := hA.bytes.form; exact ⟨_, _, _, e⟩
  obtain ⟨p1, p2, p3, hpv⟩ : ∃ a b c, pv = .slice a b c := by obtain ⟨p, c, e, _⟩ := hA.picks.form; exact ⟨_, _, _, e⟩
  subst hnv hbv hpv
  unfold actV
  rw [hop]
  rw [hop] at hbx
  obtain ⟨S1, hd, hS1, hnext⟩ := hbx.pair.first
  have hbl : b2 = x.bytes.length := by
    obtain ⟨p, c, e, _⟩ := hA.bytes.form
    injection e with _ e _
    rw [e, bs_length]
  subst hbl
  obtain ⟨u1, k1, hcut, hr1⟩ := (hbx.acts.bytes.narrow hS1).cut (k := x.bytes.length / 2) (by rw [bs_length]; omega)
  obtain ⟨u2, k2, htl, hr2⟩ := (hbx.acts.bytes.narrow hS1).tail (k := x.bytes.length / 2) (by rw [bs_length]; omega)
  rw [show ((x.bytes.length / 2 : Nat) : Int) = (x.bytes.length : Int) / 2 by omega] at hr1 hr2
  rw [bs_length] at hr2 htl
  rw [show (bs x.bytes).take (x.bytes.length / 2) = bs (x.bytes.take (x.bytes.length / 2)) by simp [bs]] at hcut
  rw [show (bs x.bytes).drop (x.bytes.length / 2) = bs (x.bytes.drop (x.bytes.length / 2)) by simp [bs]] at htl
  have HCut := Lib.hid hcut
  have HTl := Lib.hid htl
  have HFl : Hid ([x.bytes.take (x.bytes.length / 2), x.bytes.drop (x.bytes.length / 2)].flatten = x.bytes) := Lib.hid (by simp)
  have hbm : x.bytes.length ≤ 1048576 := hx.bytes
  clear hcut htl
  have HBx := Lib.hid hbx
  have HD := Lib.hid hd
  have HS1 := Lib.hid hS1
  have HNext := Lib.hid hnext
  have HX := Lib.hid hx
  have HOp := Lib.hid hop
  have HNs : Hid (∀ s ∈ x.names, s.length ≤ maxLen) := Lib.hid fun s hs => by
    have := hx.names s hs
    unfold maxLen
    omega
  have HNm : Hid (x.name.length ≤ maxLen) := Lib.hid (by have := hx.name; unfold maxLen; omega)
  have HNm2 : Hid (x.name.length ≤ 140737488355328) := Lib.hid (by have := hx.name; omega)
  have HDs : Hid (x.dest.length ≤ 140737488355328) := Lib.hid (by have := hx.dest; omega)
  have HLeD := Lib.hid hD
  have HLeD2 : Hid (D.files.length < 4611686018427387904) := Lib.hid (by omega)
  have HLeE := Lib.hid hE
  have HLeE2 : Hid (E.files.length ≤ 1099511627775) := Lib.hid (by omega)
  clear hp hA hx hd hS1 hnext hbx hop hD hE
  go_enter Try.func12, Try.ntmps12
  have c0 := HBx.out.c0.trans (show some (Value.int .i64 x.op) = some (.int .i64 1) by rw [HOp.out])
  have c1 := HBx.out.c1
  have c4 := HBx.out.c4
  go_wp2_with fail
  generalize w.alloc (.cells #[.int .i64 1, .string ⟨x.name.toArray⟩, .string ⟨x.dest.toArray⟩, .slice n1 n2 n3, .slice b1 x.bytes.length b3, .slice p1 p2 p3] 36) = W at *
  obtain ⟨A, hA⟩ : ∃ A, W.alloc (.cells #[.slice u1 (x.bytes.length / 2) k1, .slice u2 (x.bytes.length - x.bytes.length / 2) k2] 33) = A := ⟨_, rfl⟩
  have hbA : Below W.heap.size W A := by rw [← hA]; exact (Below.refl _ W).alloc (Nat.le_refl _) _
  have HbA := Lib.hid hbA
  have HRW : Hid (RdW A S1 (.slice (some ⟨W.heap.size, 0, none⟩) 2 2) [x.bytes.take (x.bytes.length / 2), x.bytes.drop (x.bytes.length / 2)]) := Lib.hid (by
    rw [← hA]
    exact parts2 HCut.out HTl.out _ (fun hk => by have := (HS1.out _ hk).2; have := HBx.out.size; omega))
  have hal : ∀ i u, W.cell? ⟨w.heap.size, i, none⟩ = some u → (W.alloc (.cells #[.slice u1 (x.bytes.length / 2) k1, .slice u2 (x.bytes.length - x.bytes.length / 2) k2] 33)).cell? ⟨w.heap.size, i, none⟩ = some u := fun i u hu => (World.cell?_of_block (alloc_old (show w.heap.size < W.heap.size by have := HBx.out.size; omega) _)).trans hu
  have d1 := hal 1 _ c1
  have d4 := hal 4 _ c4
  have HA := Lib.hid hA
  have HDA : Hid (Dk A S1 db D) := Lib.hid (HD.out.after hbA)
  rw [hA] at d1 d4
  have hAs := hbA.size
  clear hbA hal
  go_region_held3 (fun w' => w'.cell? ⟨w.heap.size, 1, none⟩ = some (.string ⟨x.name.toArray⟩) ∧ w'.cell? ⟨w.heap.size, 4, none⟩ = some (.slice b1 x.bytes.length b3))
    (first
      | exact ⟨c1, c4⟩
      | exact ⟨d1, d4⟩
      | exact ⟨f1, f4⟩
      | exact ⟨g1, g4⟩)
    (first
      | (go_at_call 29; refine (append_all (A.drewN 1) S1 db D (HDA.out.drewN 1) x.name HNm2.out _ [x.bytes.take (x.bytes.length / 2), x.bytes.drop (x.bytes.length / 2)] (HRW.out.step ((Fr.refl S1 A).drewN 1) (fun _ _ h => h)) HLeD2.out).mono ?_; rintro e w1 ⟨rfl, hd1, hf1⟩; rw [HFl.out] at hd1; have hf1 : Fr S1 W w1 := (Fr.of_new HbA.out S1).then ⟨hf1.os, hf1.tape, hf1.output, hf1.size, hf1.block⟩; have hd1 : Dk w1 (More S1 W.heap.size) db (actApp D x.name x.bytes) := hd1.mono (fun k _ hk => hk.imp id fun hle => Nat.le_trans hAs hle); have f1 := HBx.out.cell hf1 (fun k hk => .inl (HS1.out k hk)) HBx.out.c1; have f4 := HBx.out.cell hf1 (fun k hk => .inl (HS1.out k hk)) HBx.out.c4; have hp1 := HNext.out w1 _ hd1 hf1; obtain ⟨S2, hr2x, hS2, hnext2⟩ := hp1.second; have HR2 := Lib.hid hr2x; have HS2 := Lib.hid hS2; have HNext2 := Lib.hid hnext2; have HN2 : Hid (Rd w1 w1.heap.size (.slice b1 x.bytes.length b3) x.bytes) := Lib.hid ((HBx.out.acts.bytes.more (hf1.mono fun k _ hk => HS1.out k hk)).rd); have HF1 : Hid (Fr (fun k => (S k ∧ k < w.heap.size) ∨ W.heap.size ≤ k) W w1) := Lib.hid (hf1.mono fun k _ hk => .inl (HS1.out k hk)); clear hp1 hr2x hS2 hnext2 hd1 hf1)
      | (go_at_call 33; refine (rappend_all w1 S2 rb E HR2.out x.name HNm2.out _ x.bytes HN2.out HLeE.out).mono ?_; rintro e w2 ⟨rfl, hd2, hf2⟩; have hf2 : Fr S2 w1 w2 := ⟨hf2.os, hf2.tape, hf2.output, hf2.size, hf2.block⟩; have hf12 : Fr (fun k => (S k ∧ k < w.heap.size) ∨ W.heap.size ≤ k) W w2 := HF1.out.trans (hf2.mono fun k _ hk => .inl (HS2.out k hk)); have g1 := HBx.out.cell hf12 (fun k hk => hk) HBx.out.c1; have g4 := HBx.out.cell hf12 (fun k hk => hk) HBx.out.c4; have HP2 := Lib.hid (HNext2.out w2 _ hd2 hf2); have HF2 := Lib.hid hf12; clear hd2 hf2 hf12))
  all_goals
    go_wp2_with fail
    go_ret
    have hs1 := HF1.out.size
    obtain ⟨h1, h2⟩ := HBx.out.done HP2.out (fun k hk => hk.elim (fun h => h) (fun hle => .inr (Nat.le_trans hs1 hle))) HF2.out
    exact ⟨rfl, h1, h2⟩
end Go.Proofs.Ytlekffhacmdnnaa
