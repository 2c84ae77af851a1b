/-
  The walks over step: what crashes, what loses, what is no act.
-/
import Derived.Test.YtlekffhacmdnnaaStpA
namespace Go.Proofs.Ytlekffhacmdnnaa
open Go.RowKit

set_option maxRecDepth 100000 in
set_option maxHeartbeats 4000000 in
theorem step_5 (w : World) (S : Nat → Prop) (db rb : Nat) (D E : Dsk) (hp : Pair S w db rb D E) (nv bv pv : Value) (x : PAct) (hA : ActC w S nv bv pv x) (hx : FitA x) (hop : x.op = 5) (hD : D.files.length ≤ 1099511627774) (hE : E.files.length ≤ 1099511627774) :
    Calls Try.prog 12 #[.pointer (some ⟨db, 0, none⟩), .pointer (some ⟨rb, 0, none⟩), actV x nv bv pv] w fun e w' => e = .returned (.bool true) ∧ Pair (More S w.heap.size) w' db rb (crash D x.picks) (crash E x.picks) ∧ Fr S w w' := by
  have hbx := box_of hp hA
  obtain ⟨n1, n2, n3, hnv⟩ : ∃ a b c, nv = .slice a b c := by obtain ⟨p, c, e, _⟩ := hA.names.form; exact ⟨_, _, _, e⟩
  obtain ⟨b1, b2, b3, hbv⟩ : ∃ a b c, bv = .slice a b c := by obtain ⟨p, c, e, _⟩ := hA.bytes.form; exact ⟨_, _, _, e⟩
  obtain ⟨p1, p2, p3, hpv⟩ : ∃ a b c, pv = .slice a b c := by obtain ⟨p, c, e, _⟩ := hA.picks.form; exact ⟨_, _, _, e⟩
  subst hnv hbv hpv
  unfold actV
  rw [hop]
  rw [hop] at hbx
  obtain ⟨S1, hd, hS1, hnext⟩ := hbx.pair.first
  have HBx := Lib.hid hbx
  have HD := Lib.hid hd
  have HS1 := Lib.hid hS1
  have HNext := Lib.hid hnext
  have HX := Lib.hid hx
  have HOp := Lib.hid hop
  have HNs : Hid (∀ s ∈ x.names, s.length ≤ maxLen) := Lib.hid fun s hs => by
    have := hx.names s hs
    unfold maxLen
    omega
  have HNm : Hid (x.name.length ≤ maxLen) := Lib.hid (by have := hx.name; unfold maxLen; omega)
  have HNm2 : Hid (x.name.length ≤ 140737488355328) := Lib.hid (by have := hx.name; omega)
  have HDs : Hid (x.dest.length ≤ 140737488355328) := Lib.hid (by have := hx.dest; omega)
  have HLeD := Lib.hid hD
  have HLeD2 : Hid (D.files.length < 4611686018427387904) := Lib.hid (by omega)
  have HLeE := Lib.hid hE
  have HLeE2 : Hid (E.files.length ≤ 1099511627775) := Lib.hid (by omega)
  clear hp hA hx hd hS1 hnext hbx hop hD hE
  go_enter Try.func12, Try.ntmps12
  have c0 := HBx.out.c0.trans (show some (Value.int .i64 x.op) = some (.int .i64 5) by rw [HOp.out])
  have c5 := HBx.out.c5
  have HC := fun (w1 : World) => True.intro
  clear HC
  have HCall := Lib.hid (crash_any _ S1 db D HD.out (.slice p1 p2 p3) x.picks (HBx.out.acts.picks.narrow HS1.out) HX.out.picks (Nat.le_trans HLeD.out (by decide)))
  go_wp2_with fail
  refine HCall.out.mono ?_
  generalize w.alloc (.cells #[.int .i64 5, .string ⟨x.name.toArray⟩, .string ⟨x.dest.toArray⟩, .slice n1 n2 n3, .slice b1 b2 b3, .slice p1 p2 p3] 36) = W at *
  rintro e w1 ⟨rfl, hd1, hf1⟩
  have f5 := HBx.out.cell hf1 (fun k hk => .inl (HS1.out k hk)) HBx.out.c5
  have hp1 := HNext.out w1 _ hd1 hf1
  obtain ⟨S2, hr2, hS2, hnext2⟩ := hp1.second
  have hpk : RdV w1 S2 (.slice p1 p2 p3) (x.picks.map (Value.int .i64)) := (HBx.out.acts.picks.more (hf1.mono fun k _ hk => HS1.out k hk)).narrow hS2
  have HCall2 := Lib.hid (rcrash_any w1 S2 rb E hr2 (.slice p1 p2 p3) x.picks hpk HX.out.picks)
  have HS2 := Lib.hid hS2
  have HNext2 := Lib.hid hnext2
  have HF1 : Hid (Fr (fun k => (S k ∧ k < w.heap.size) ∨ W.heap.size ≤ k) W w1) := Lib.hid (hf1.mono fun k _ hk => .inl (HS1.out k hk))
  clear hp1 hr2 hS2 hnext2 hd1 hf1 HCall
  go_wp2_with fail
  refine HCall2.out.mono ?_
  rintro e w2 ⟨rfl, hd2, hf2⟩
  have hf12 : Fr (fun k => (S k ∧ k < w.heap.size) ∨ W.heap.size ≤ k) W w2 := HF1.out.trans (hf2.mono fun k _ hk => .inl (HS2.out k hk))
  have HP2 := Lib.hid (HNext2.out w2 _ hd2 hf2)
  have HF2 := Lib.hid hf12
  clear hd2 hf2 hf12
  go_wp2_with fail
  go_ret
  have hs1 := HF1.out.size
  obtain ⟨h1, h2⟩ := HBx.out.done HP2.out (fun k hk => hk.elim (fun h => h) (fun hle => .inr (Nat.le_trans hs1 hle))) HF2.out
  exact ⟨rfl, h1, h2⟩
set_option maxRecDepth 100000 in
set_option maxHeartbeats 4000000 in
theorem step_6 (w : World) (S : Nat → Prop) (db rb : Nat) (D E : Dsk) (hp : Pair S w db rb D E) (nv bv pv : Value) (x : PAct) (hA : ActC w S nv bv pv x) (hx : FitA x) (hop : x.op = 6) (hD : D.files.length ≤ 1099511627774) (hE : E.files.length ≤ 1099511627774) (hbD : D.born ≤ 1099511627776) (hbE : E.born ≤ 1099511627776) :
    Calls Try.prog 12 #[.pointer (some ⟨db, 0, none⟩), .pointer (some ⟨rb, 0, none⟩), actV x nv bv pv] w fun e w' => e = .returned (.bool true) ∧ Pair (More S w.heap.size) w' db rb (⟨D.size, [], D.born + 1⟩) (⟨E.size, [], E.born + 1⟩) ∧ Fr S w w' := by
  have hbx := box_of hp hA
  obtain ⟨n1, n2, n3, hnv⟩ : ∃ a b c, nv = .slice a b c := by obtain ⟨p, c, e, _⟩ := hA.names.form; exact ⟨_, _, _, e⟩
  obtain ⟨b1, b2, b3, hbv⟩ : ∃ a b c, bv = .slice a b c := by obtain ⟨p, c, e, _⟩ := hA.bytes.form; exact ⟨_, _, _, e⟩
  obtain ⟨p1, p2, p3, hpv⟩ : ∃ a b c, pv = .slice a b c := by obtain ⟨p, c, e, _⟩ := hA.picks.form; exact ⟨_, _, _, e⟩
  subst hnv hbv hpv
  unfold actV
  rw [hop]
  rw [hop] at hbx
  obtain ⟨S1, hd, hS1, hnext⟩ := hbx.pair.first
  have HBx := Lib.hid hbx
  have HD := Lib.hid hd
  have HS1 := Lib.hid hS1
  have HNext := Lib.hid hnext
  have HX := Lib.hid hx
  have HOp := Lib.hid hop
  have HNs : Hid (∀ s ∈ x.names, s.length ≤ maxLen) := Lib.hid fun s hs => by
    have := hx.names s hs
    unfold maxLen
    omega
  have HNm : Hid (x.name.length ≤ maxLen) := Lib.hid (by have := hx.name; unfold maxLen; omega)
  have HNm2 : Hid (x.name.length ≤ 140737488355328) := Lib.hid (by have := hx.name; omega)
  have HDs : Hid (x.dest.length ≤ 140737488355328) := Lib.hid (by have := hx.dest; omega)
  have HLeD := Lib.hid hD
  have HLeD2 : Hid (D.files.length < 4611686018427387904) := Lib.hid (by omega)
  have HLeE := Lib.hid hE
  have HLeE2 : Hid (E.files.length ≤ 1099511627775) := Lib.hid (by omega)
  clear hp hA hx hd hS1 hnext hbx hop hD hE
  go_enter Try.func12, Try.ntmps12
  have c0 := HBx.out.c0.trans (show some (Value.int .i64 x.op) = some (.int .i64 6) by rw [HOp.out])

  have HC := fun (w1 : World) => True.intro
  clear HC
  have HCall := Lib.hid (lose_any _ S1 db D HD.out hbD)
  go_wp2_with fail
  refine HCall.out.mono ?_
  generalize w.alloc (.cells #[.int .i64 6, .string ⟨x.name.toArray⟩, .string ⟨x.dest.toArray⟩, .slice n1 n2 n3, .slice b1 b2 b3, .slice p1 p2 p3] 36) = W at *
  rintro e w1 ⟨rfl, hd1, hf1⟩
  have hd1 := hd1.weak W.heap.size

  have hp1 := HNext.out w1 _ hd1 hf1
  obtain ⟨S2, hr2, hS2, hnext2⟩ := hp1.second
  have HCall2 := Lib.hid (rlose_any w1 S2 rb E hr2 hbE)
  have HS2 := Lib.hid hS2
  have HNext2 := Lib.hid hnext2
  have HF1 : Hid (Fr (fun k => (S k ∧ k < w.heap.size) ∨ W.heap.size ≤ k) W w1) := Lib.hid (hf1.mono fun k _ hk => .inl (HS1.out k hk))
  clear hp1 hr2 hS2 hnext2 hd1 hf1 HCall
  go_wp2_with fail
  refine HCall2.out.mono ?_
  rintro e w2 ⟨rfl, hd2, hf2⟩
  have hd2 := hd2.weak w1.heap.size
  have hf12 : Fr (fun k => (S k ∧ k < w.heap.size) ∨ W.heap.size ≤ k) W w2 := HF1.out.trans (hf2.mono fun k _ hk => .inl (HS2.out k hk))
  have HP2 := Lib.hid (HNext2.out w2 _ hd2 hf2)
  have HF2 := Lib.hid hf12
  clear hd2 hf2 hf12
  go_wp2_with fail
  go_ret
  have hs1 := HF1.out.size
  obtain ⟨h1, h2⟩ := HBx.out.done HP2.out (fun k hk => hk.elim (fun h => h) (fun hle => .inr (Nat.le_trans hs1 hle))) HF2.out
  exact ⟨rfl, h1, h2⟩
set_option maxRecDepth 100000 in
set_option maxHeartbeats 4000000 in
theorem step_0 (w : World) (S : Nat → Prop) (db rb : Nat) (D E : Dsk) (hp : Pair S w db rb D E) (nv bv pv : Value) (x : PAct) (hA : ActC w S nv bv pv x) (hx : FitA x) (q1 : (x.op == 1) = false) (q2 : (x.op == 2) = false) (q3 : (x.op == 3) = false) (q4 : (x.op == 4) = false) (q5 : (x.op == 5) = false) (q6 : (x.op == 6) = false) (hD : D.files.length ≤ 1099511627774) (hE : E.files.length ≤ 1099511627774) :
    Calls Try.prog 12 #[.pointer (some ⟨db, 0, none⟩), .pointer (some ⟨rb, 0, none⟩), actV x nv bv pv] w fun e w' => e = .returned (.bool true) ∧ Pair (More S w.heap.size) w' db rb (D) (E) ∧ Fr S w w' := by
  have hbx := box_of hp hA
  obtain ⟨n1, n2, n3, hnv⟩ : ∃ a b c, nv = .slice a b c := by obtain ⟨p, c, e, _⟩ := hA.names.form; exact ⟨_, _, _, e⟩
  obtain ⟨b1, b2, b3, hbv⟩ : ∃ a b c, bv = .slice a b c := by obtain ⟨p, c, e, _⟩ := hA.bytes.form; exact ⟨_, _, _, e⟩
  obtain ⟨p1, p2, p3, hpv⟩ : ∃ a b c, pv = .slice a b c := by obtain ⟨p, c, e, _⟩ := hA.picks.form; exact ⟨_, _, _, e⟩
  subst hnv hbv hpv
  unfold actV
  obtain ⟨S1, hd, hS1, hnext⟩ := hbx.pair.first
  have HBx := Lib.hid hbx
  have HD := Lib.hid hd
  have HS1 := Lib.hid hS1
  have HNext := Lib.hid hnext
  have HX := Lib.hid hx
  have HNs : Hid (∀ s ∈ x.names, s.length ≤ maxLen) := Lib.hid fun s hs => by
    have := hx.names s hs
    unfold maxLen
    omega
  have HNm : Hid (x.name.length ≤ maxLen) := Lib.hid (by have := hx.name; unfold maxLen; omega)
  have HNm2 : Hid (x.name.length ≤ 140737488355328) := Lib.hid (by have := hx.name; omega)
  have HDs : Hid (x.dest.length ≤ 140737488355328) := Lib.hid (by have := hx.dest; omega)
  have HLeD := Lib.hid hD
  have HLeD2 : Hid (D.files.length < 4611686018427387904) := Lib.hid (by omega)
  have HLeE := Lib.hid hE
  have HLeE2 : Hid (E.files.length ≤ 1099511627775) := Lib.hid (by omega)
  clear hp hA hx hd hS1 hnext hbx hD hE
  go_enter Try.func12, Try.ntmps12
  have c0 := HBx.out.c0
  go_wp2_with fail
  go_ret
  obtain ⟨h1, h2⟩ := HBx.out.done HBx.out.pair (fun k hk => .inl hk) (Fr.refl _ _)
  exact ⟨rfl, h1, h2⟩
end Go.Proofs.Ytlekffhacmdnnaa
