/-
  The walks over step, act by act.
-/
import Derived.Test.YtlekffhacmdnnaaActM
import Derived.Deep.RegionHeld3
namespace Go.Proofs.Ytlekffhacmdnnaa
open Go.RowKit

theorem eq_cast (a b : Nat) : ((a : Int) == (b : Int)) = (a == b) := by
  rw [Bool.eq_iff_iff]
  simp only [beq_iff_eq]
  omega
theorem ret_eq {a b : Nat} {c : Bool} (h : (a == b) = c) : Ending.returned (.bool ((a : Int) == (b : Int))) = .returned (.bool c) := by rw [eq_cast, h]

/-- What every act of step begins with: the act laid into a box of its own. -/
structure Box (S : Nat → Prop) (w W : World) (db rb : Nat) (D E : Dsk) (nv bv pv : Value) (x : PAct) : Prop where
  pair : Pair S W db rb D E
  acts : ActC W S nv bv pv x
  size : W.heap.size = w.heap.size + 1
  low : ∀ k, S k → k < w.heap.size
  fr : Fr S w W
  c0 : W.cell? ⟨w.heap.size, 0, none⟩ = some (.int .i64 x.op)
  c1 : W.cell? ⟨w.heap.size, 1, none⟩ = some (.string ⟨x.name.toArray⟩)
  c2 : W.cell? ⟨w.heap.size, 2, none⟩ = some (.string ⟨x.dest.toArray⟩)
  c3 : W.cell? ⟨w.heap.size, 3, none⟩ = some nv
  c4 : W.cell? ⟨w.heap.size, 4, none⟩ = some bv
  c5 : W.cell? ⟨w.heap.size, 5, none⟩ = some pv
theorem box_of {S : Nat → Prop} {w : World} {db rb : Nat} {D E : Dsk} (hp : Pair S w db rb D E) {nv bv pv : Value} {x : PAct} (hA : ActC w S nv bv pv x) :
    Box (fun k => S k ∧ k < w.heap.size) w (w.alloc (.cells #[.int .i64 x.op, .string ⟨x.name.toArray⟩, .string ⟨x.dest.toArray⟩, nv, bv, pv] 36)) db rb D E nv bv pv x := by
  have hb : Below w.heap.size w (w.alloc (.cells #[.int .i64 x.op, .string ⟨x.name.toArray⟩, .string ⟨x.dest.toArray⟩, nv, bv, pv] 36)) := (Below.refl _ w).alloc (Nat.le_refl _) _
  have hn := heap_alloc_new w (.cells #[.int .i64 x.op, .string ⟨x.name.toArray⟩, .string ⟨x.dest.toArray⟩, nv, bv, pv] 36)
  exact ⟨(hp.mono fun k hk hs => ⟨hs, hk⟩).below hb, hA.step (Fr.of_new hb S) (fun k _ hk => hk.1), by simp, fun k hk => hk.2, Fr.of_new hb _, cell_of hn rfl, cell_of hn rfl, cell_of hn rfl, cell_of hn rfl, cell_of hn rfl, cell_of hn rfl⟩
theorem Box.cell {S T : Nat → Prop} {w W W' : World} {db rb : Nat} {D E : Dsk} {nv bv pv : Value} {x : PAct} (h : Box S w W db rb D E nv bv pv x) (hf : Fr T W W') (hT : ∀ k, T k → S k ∨ W.heap.size ≤ k) {i : Nat} {u : Value} (hu : W.cell? ⟨w.heap.size, i, none⟩ = some u) : W'.cell? ⟨w.heap.size, i, none⟩ = some u := by
  refine (World.cell?_of_block (hf.block w.heap.size (by rw [h.size]; omega) fun hk => ?_)).trans hu
  rcases hT _ hk with h1 | h1
  · have := h.low _ h1
    omega
  · rw [h.size] at h1
    omega
/-- Both disks behind two calls. -/
theorem Box.done {S : Nat → Prop} {w W W' : World} {db rb : Nat} {D E D' E' : Dsk} {nv bv pv : Value} {x : PAct} {S0 : Nat → Prop} (h : Box (fun k => S k ∧ k < w.heap.size) w W db rb D E nv bv pv x) (hp : Pair S0 W' db rb D' E') (hS : ∀ k, S0 k → (S k ∧ k < w.heap.size) ∨ W.heap.size ≤ k) (hf : Fr (fun k => (S k ∧ k < w.heap.size) ∨ W.heap.size ≤ k) W W') :
    Pair (More S w.heap.size) W' db rb D' E' ∧ Fr S w W' := by
  have hs := h.size
  refine ⟨hp.mono fun k _ hk => (hS k hk).imp And.left fun hle => by omega, ?_⟩
  have h1 : Fr S w W := h.fr.mono fun k _ hk => hk.1
  exact h1.trans (hf.mono fun k _ hk => hk.imp And.left fun hle => by omega)

set_option maxRecDepth 100000 in
set_option maxHeartbeats 4000000 in
theorem step_2 (w : World) (S : Nat → Prop) (db rb : Nat) (D E : Dsk) (hp : Pair S w db rb D E) (nv bv pv : Value) (x : PAct) (hA : ActC w S nv bv pv x) (hx : FitA x) (hop : x.op = 2) (hD : D.files.length ≤ 1099511627774) (hE : E.files.length ≤ 1099511627774) :
    Calls Try.prog 12 #[.pointer (some ⟨db, 0, none⟩), .pointer (some ⟨rb, 0, none⟩), actV x nv bv pv] w fun e w' => e = .returned (.bool ((ansNames D x.names : Int) == (ansNames E x.names : Int))) ∧ Pair (More S w.heap.size) w' db rb (actSync D x.names) (actSync E x.names) ∧ Fr S w w' := by
  have hbx := box_of hp hA
  obtain ⟨n1, n2, n3, hnv⟩ : ∃ a b c, nv = .slice a b c := by obtain ⟨p, c, e, _⟩ := hA.names.form; exact ⟨_, _, _, e⟩
  obtain ⟨b1, b2, b3, hbv⟩ : ∃ a b c, bv = .slice a b c := by obtain ⟨p, c, e, _⟩ := hA.bytes.form; exact ⟨_, _, _, e⟩
  obtain ⟨p1, p2, p3, hpv⟩ : ∃ a b c, pv = .slice a b c := by obtain ⟨p, c, e, _⟩ := hA.picks.form; exact ⟨_, _, _, e⟩
  subst hnv hbv hpv
  unfold actV
  rw [hop]
  rw [hop] at hbx
  obtain ⟨S1, hd, hS1, hnext⟩ := hbx.pair.first
  have HBx := Lib.hid hbx
  have HD := Lib.hid hd
  have HS1 := Lib.hid hS1
  have HNext := Lib.hid hnext
  have HX := Lib.hid hx
  have HOp := Lib.hid hop
  have HNs : Hid (∀ s ∈ x.names, s.length ≤ maxLen) := Lib.hid fun s hs => by
    have := hx.names s hs
    unfold maxLen
    omega
  have HNm : Hid (x.name.length ≤ maxLen) := Lib.hid (by have := hx.name; unfold maxLen; omega)
  have HNm2 : Hid (x.name.length ≤ 140737488355328) := Lib.hid (by have := hx.name; omega)
  have HDs : Hid (x.dest.length ≤ 140737488355328) := Lib.hid (by have := hx.dest; omega)
  have HLeD := Lib.hid hD
  have HLeD2 : Hid (D.files.length < 4611686018427387904) := Lib.hid (by omega)
  have HLeE := Lib.hid hE
  have HLeE2 : Hid (E.files.length ≤ 1099511627775) := Lib.hid (by omega)
  clear hp hA hx hd hS1 hnext hbx hop hD hE
  go_enter Try.func12, Try.ntmps12
  have c0 := HBx.out.c0.trans (show some (Value.int .i64 x.op) = some (.int .i64 2) by rw [HOp.out])
  have c3 := HBx.out.c3
  go_wp2_with fail
  generalize w.alloc (.cells #[.int .i64 2, .string ⟨x.name.toArray⟩, .string ⟨x.dest.toArray⟩, .slice n1 n2 n3, .slice b1 b2 b3, .slice p1 p2 p3] 36) = W at *
  go_region_held3 (fun w' => w'.cell? ⟨w.heap.size, 3, none⟩ = some (.slice n1 n2 n3))
    (first
      | exact c3
      | exact f3
      | exact g3)
    (first
      | (go_at_call 31; refine (sync_all _ S1 db D (HD.out.drewN 1) _ x.names ((HBx.out.acts.names.step ((Fr.refl (fun k => S k ∧ k < w.heap.size) W).drewN 1) (fun _ _ h => h)).narrow HS1.out) HNs.out).mono ?_; rintro e w1 ⟨rfl, hd1, hf1⟩; have hf1 : Fr S1 W w1 := ⟨hf1.os, hf1.tape, hf1.output, hf1.size, hf1.block⟩; have f3 := HBx.out.cell hf1 (fun k hk => .inl (HS1.out k hk)) HBx.out.c3; have hp1 := HNext.out w1 _ hd1 hf1; obtain ⟨S2, hr2, hS2, hnext2⟩ := hp1.second; have HR2 := Lib.hid hr2; have HS2 := Lib.hid hS2; have HNext2 := Lib.hid hnext2; have HN2 : Hid (RdV w1 S2 (.slice n1 n2 n3) (x.names.map encStr)) := Lib.hid ((HBx.out.acts.names.more (hf1.mono fun k _ hk => HS1.out k hk)).narrow hS2); have HF1 : Hid (Fr (fun k => (S k ∧ k < w.heap.size) ∨ W.heap.size ≤ k) W w1) := Lib.hid (hf1.mono fun k _ hk => .inl (HS1.out k hk)); clear hp1 hr2 hS2 hnext2 hd1 hf1)
      | (go_at_call 34; refine (rsync_all w1 S2 rb E HR2.out _ x.names HN2.out).mono ?_; rintro e w2 ⟨rfl, hd2, hf2⟩; have hf2 : Fr S2 w1 w2 := ⟨hf2.os, hf2.tape, hf2.output, hf2.size, hf2.block⟩; have hf12 : Fr (fun k => (S k ∧ k < w.heap.size) ∨ W.heap.size ≤ k) W w2 := HF1.out.trans (hf2.mono fun k _ hk => .inl (HS2.out k hk)); have g3 := HBx.out.cell hf12 (fun k hk => hk) HBx.out.c3; have HP2 := Lib.hid (HNext2.out w2 _ hd2 hf2); have HF2 := Lib.hid hf12; clear hd2 hf2 hf12))
  all_goals
    go_wp2_with fail
    go_ret
    have hs1 := HF1.out.size
    obtain ⟨h1, h2⟩ := HBx.out.done HP2.out (fun k hk => hk.elim (fun h => h) (fun hle => .inr (Nat.le_trans hs1 hle))) HF2.out
    exact ⟨rfl, h1, h2⟩
set_option maxRecDepth 100000 in
set_option maxHeartbeats 4000000 in
theorem step_4 (w : World) (S : Nat → Prop) (db rb : Nat) (D E : Dsk) (hp : Pair S w db rb D E) (nv bv pv : Value) (x : PAct) (hA : ActC w S nv bv pv x) (hx : FitA x) (hop : x.op = 4) (hD : D.files.length ≤ 1099511627774) (hE : E.files.length ≤ 1099511627774) :
    Calls Try.prog 12 #[.pointer (some ⟨db, 0, none⟩), .pointer (some ⟨rb, 0, none⟩), actV x nv bv pv] w fun e w' => e = .returned (.bool ((ansNames D x.names : Int) == (ansNames E x.names : Int))) ∧ Pair (More S w.heap.size) w' db rb (actDel D x.names) (actDel E x.names) ∧ Fr S w w' := by
  have hbx := box_of hp hA
  obtain ⟨n1, n2, n3, hnv⟩ : ∃ a b c, nv = .slice a b c := by obtain ⟨p, c, e, _⟩ := hA.names.form; exact ⟨_, _, _, e⟩
  obtain ⟨b1, b2, b3, hbv⟩ : ∃ a b c, bv = .slice a b c := by obtain ⟨p, c, e, _⟩ := hA.bytes.form; exact ⟨_, _, _, e⟩
  obtain ⟨p1, p2, p3, hpv⟩ : ∃ a b c, pv = .slice a b c := by obtain ⟨p, c, e, _⟩ := hA.picks.form; exact ⟨_, _, _, e⟩
  subst hnv hbv hpv
  unfold actV
  rw [hop]
  rw [hop] at hbx
  obtain ⟨S1, hd, hS1, hnext⟩ := hbx.pair.first
  have HBx := Lib.hid hbx
  have HD := Lib.hid hd
  have HS1 := Lib.hid hS1
  have HNext := Lib.hid hnext
  have HX := Lib.hid hx
  have HOp := Lib.hid hop
  have HNs : Hid (∀ s ∈ x.names, s.length ≤ maxLen) := Lib.hid fun s hs => by
    have := hx.names s hs
    unfold maxLen
    omega
  have HNm : Hid (x.name.length ≤ maxLen) := Lib.hid (by have := hx.name; unfold maxLen; omega)
  have HNm2 : Hid (x.name.length ≤ 140737488355328) := Lib.hid (by have := hx.name; omega)
  have HDs : Hid (x.dest.length ≤ 140737488355328) := Lib.hid (by have := hx.dest; omega)
  have HLeD := Lib.hid hD
  have HLeD2 : Hid (D.files.length < 4611686018427387904) := Lib.hid (by omega)
  have HLeE := Lib.hid hE
  have HLeE2 : Hid (E.files.length ≤ 1099511627775) := Lib.hid (by omega)
  clear hp hA hx hd hS1 hnext hbx hop hD hE
  go_enter Try.func12, Try.ntmps12
  have c0 := HBx.out.c0.trans (show some (Value.int .i64 x.op) = some (.int .i64 4) by rw [HOp.out])
  have c3 := HBx.out.c3
  go_wp2_with fail
  generalize w.alloc (.cells #[.int .i64 4, .string ⟨x.name.toArray⟩, .string ⟨x.dest.toArray⟩, .slice n1 n2 n3, .slice b1 b2 b3, .slice p1 p2 p3] 36) = W at *
  go_region_held3 (fun w' => w'.cell? ⟨w.heap.size, 3, none⟩ = some (.slice n1 n2 n3))
    (first
      | exact c3
      | exact f3
      | exact g3)
    (first
      | (go_at_call 30; refine (delete_all _ S1 db D (HD.out.drewN 1) _ x.names ((HBx.out.acts.names.step ((Fr.refl (fun k => S k ∧ k < w.heap.size) W).drewN 1) (fun _ _ h => h)).narrow HS1.out) HNs.out).mono ?_; rintro e w1 ⟨rfl, hd1, hf1⟩; have hf1 : Fr S1 W w1 := ⟨hf1.os, hf1.tape, hf1.output, hf1.size, hf1.block⟩; have f3 := HBx.out.cell hf1 (fun k hk => .inl (HS1.out k hk)) HBx.out.c3; have hp1 := HNext.out w1 _ hd1 hf1; obtain ⟨S2, hr2, hS2, hnext2⟩ := hp1.second; have HR2 := Lib.hid hr2; have HS2 := Lib.hid hS2; have HNext2 := Lib.hid hnext2; have HN2 : Hid (RdV w1 S2 (.slice n1 n2 n3) (x.names.map encStr)) := Lib.hid ((HBx.out.acts.names.more (hf1.mono fun k _ hk => HS1.out k hk)).narrow hS2); have HF1 : Hid (Fr (fun k => (S k ∧ k < w.heap.size) ∨ W.heap.size ≤ k) W w1) := Lib.hid (hf1.mono fun k _ hk => .inl (HS1.out k hk)); clear hp1 hr2 hS2 hnext2 hd1 hf1)
      | (go_at_call 36; refine (rdelete_all w1 S2 rb E HR2.out _ x.names HN2.out HLeE2.out).mono ?_; rintro e w2 ⟨rfl, hd2, hf2⟩; have hf2 : Fr S2 w1 w2 := ⟨hf2.os, hf2.tape, hf2.output, hf2.size, hf2.block⟩; have hf12 : Fr (fun k => (S k ∧ k < w.heap.size) ∨ W.heap.size ≤ k) W w2 := HF1.out.trans (hf2.mono fun k _ hk => .inl (HS2.out k hk)); have g3 := HBx.out.cell hf12 (fun k hk => hk) HBx.out.c3; have HP2 := Lib.hid (HNext2.out w2 _ hd2 hf2); have HF2 := Lib.hid hf12; clear hd2 hf2 hf12))
  all_goals
    go_wp2_with fail
    go_ret
    have hs1 := HF1.out.size
    obtain ⟨h1, h2⟩ := HBx.out.done HP2.out (fun k hk => hk.elim (fun h => h) (fun hle => .inr (Nat.le_trans hs1 hle))) HF2.out
    exact ⟨rfl, h1, h2⟩
set_option maxRecDepth 100000 in
set_option maxHeartbeats 4000000 in
theorem step_3 (w : World) (S : Nat → Prop) (db rb : Nat) (D E : Dsk) (hp : Pair S w db rb D E) (nv bv pv : Value) (x : PAct) (hA : ActC w S nv bv pv x) (hx : FitA x) (hop : x.op = 3) (hD : D.files.length ≤ 1099511627774) (hE : E.files.length ≤ 1099511627774) :
    Calls Try.prog 12 #[.pointer (some ⟨db, 0, none⟩), .pointer (some ⟨rb, 0, none⟩), actV x nv bv pv] w fun e w' => e = .returned (.bool ((ansRen D x.name x.dest : Int) == (ansRen E x.name x.dest : Int))) ∧ Pair (More S w.heap.size) w' db rb (actRen D x.name x.dest) (actRen E x.name x.dest) ∧ Fr S w w' := by
  have hbx := box_of hp hA
  obtain ⟨n1, n2, n3, hnv⟩ : ∃ a b c, nv = .slice a b c := by obtain ⟨p, c, e, _⟩ := hA.names.form; exact ⟨_, _, _, e⟩
  obtain ⟨b1, b2, b3, hbv⟩ : ∃ a b c, bv = .slice a b c := by obtain ⟨p, c, e, _⟩ := hA.bytes.form; exact ⟨_, _, _, e⟩
  obtain ⟨p1, p2, p3, hpv⟩ : ∃ a b c, pv = .slice a b c := by obtain ⟨p, c, e, _⟩ := hA.picks.form; exact ⟨_, _, _, e⟩
  subst hnv hbv hpv
  unfold actV
  rw [hop]
  rw [hop] at hbx
  obtain ⟨S1, hd, hS1, hnext⟩ := hbx.pair.first
  have HBx := Lib.hid hbx
  have HD := Lib.hid hd
  have HS1 := Lib.hid hS1
  have HNext := Lib.hid hnext
  have HX := Lib.hid hx
  have HOp := Lib.hid hop
  have HNs : Hid (∀ s ∈ x.names, s.length ≤ maxLen) := Lib.hid fun s hs => by
    have := hx.names s hs
    unfold maxLen
    omega
  have HNm : Hid (x.name.length ≤ maxLen) := Lib.hid (by have := hx.name; unfold maxLen; omega)
  have HNm2 : Hid (x.name.length ≤ 140737488355328) := Lib.hid (by have := hx.name; omega)
  have HDs : Hid (x.dest.length ≤ 140737488355328) := Lib.hid (by have := hx.dest; omega)
  have HLeD := Lib.hid hD
  have HLeD2 : Hid (D.files.length < 4611686018427387904) := Lib.hid (by omega)
  have HLeE := Lib.hid hE
  have HLeE2 : Hid (E.files.length ≤ 1099511627775) := Lib.hid (by omega)
  clear hp hA hx hd hS1 hnext hbx hop hD hE
  go_enter Try.func12, Try.ntmps12
  have c0 := HBx.out.c0.trans (show some (Value.int .i64 x.op) = some (.int .i64 3) by rw [HOp.out])
  have c1 := HBx.out.c1
  have c2 := HBx.out.c2
  go_wp2_with fail
  generalize w.alloc (.cells #[.int .i64 3, .string ⟨x.name.toArray⟩, .string ⟨x.dest.toArray⟩, .slice n1 n2 n3, .slice b1 b2 b3, .slice p1 p2 p3] 36) = W at *
  go_region_held3 (fun w' => w'.cell? ⟨w.heap.size, 1, none⟩ = some (.string ⟨x.name.toArray⟩) ∧ w'.cell? ⟨w.heap.size, 2, none⟩ = some (.string ⟨x.dest.toArray⟩))
    (first
      | exact ⟨c1, c2⟩
      | exact ⟨f1, f2⟩
      | exact ⟨g1, g2⟩)
    (first
      | (go_at_call 32; refine (rename_all _ S1 db D (HD.out.drewN 1) x.name x.dest HNm.out HDs.out HLeD2.out).mono ?_; rintro e w1 ⟨rfl, hd1, hf1⟩; have hf1 : Fr S1 W w1 := ⟨hf1.os, hf1.tape, hf1.output, hf1.size, hf1.block⟩; have f1 := HBx.out.cell hf1 (fun k hk => .inl (HS1.out k hk)) HBx.out.c1; have f2 := HBx.out.cell hf1 (fun k hk => .inl (HS1.out k hk)) HBx.out.c2; have hp1 := HNext.out w1 _ hd1 hf1; obtain ⟨S2, hr2, hS2, hnext2⟩ := hp1.second; have HR2 := Lib.hid hr2; have HS2 := Lib.hid hS2; have HNext2 := Lib.hid hnext2; have HF1 : Hid (Fr (fun k => (S k ∧ k < w.heap.size) ∨ W.heap.size ≤ k) W w1) := Lib.hid (hf1.mono fun k _ hk => .inl (HS1.out k hk)); clear hp1 hr2 hS2 hnext2 hd1 hf1)
      | (go_at_call 35; refine (rrename_all w1 S2 rb E HR2.out x.name x.dest HDs.out HLeE.out).mono ?_; rintro e w2 ⟨rfl, hd2, hf2⟩; have hf2 : Fr S2 w1 w2 := ⟨hf2.os, hf2.tape, hf2.output, hf2.size, hf2.block⟩; have hf12 : Fr (fun k => (S k ∧ k < w.heap.size) ∨ W.heap.size ≤ k) W w2 := HF1.out.trans (hf2.mono fun k _ hk => .inl (HS2.out k hk)); have g1 := HBx.out.cell hf12 (fun k hk => hk) HBx.out.c1; have g2 := HBx.out.cell hf12 (fun k hk => hk) HBx.out.c2; have HP2 := Lib.hid (HNext2.out w2 _ hd2 hf2); have HF2 := Lib.hid hf12; clear hd2 hf2 hf12))
  all_goals
    go_wp2_with fail
    go_ret
    have hs1 := HF1.out.size
    obtain ⟨h1, h2⟩ := HBx.out.done HP2.out (fun k hk => hk.elim (fun h => h) (fun hle => .inr (Nat.le_trans hs1 hle))) HF2.out
    exact ⟨rfl, h1, h2⟩
end Go.Proofs.Ytlekffhacmdnnaa
