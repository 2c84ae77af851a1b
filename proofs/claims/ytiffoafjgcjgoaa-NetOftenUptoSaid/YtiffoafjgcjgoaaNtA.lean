/-
  The walks over the net's smallest functions: has, link, lay, Tick, Now, meant, find.
-/
import Derived.Test.YtiffoafjgcjgoaaNt
import Derived.WalkSpells
import Derived.BigQuiet
import Derived.Deep.QuietTactic
import Derived.Outline
import Derived.Deep.RegionWith
import Derived.StillTailTactics
namespace Go.Proofs.Ytiffoafjgcjgoaa
open Go.RowKit

def isNode (N : PNet) (n : Int) : Bool := decide (0 ≤ n) && decide (n < (N.nodes : Int))
theorem isLink_eq (N : PNet) (f t : Int) : isLink N f t = (isNode N f && isNode N t) := rfl

section
variable (w : World) (S : Nat → Prop) (nb : Nat) (N : PNet) (gb : Nat) (ro : Nat → Nat) (bv : Nat → Nat → Value) (h : NtAt w S nb N gb ro bv)
include h
set_option maxHeartbeats 400000 in
theorem has_any (n : Int) : Calls Try.prog 34 #[.pointer (some ⟨nb, 0, none⟩), .int .i64 n] w fun e w' => e = .returned (.bool (isNode N n)) ∧ w = w' := by
  have c2 := h.c2
  generalize hb : isNode N n = r
  have HB := Lib.hid hb
  clear hb h
  go_enter Try.func34, Try.ntmps34
  go_wp2
  all_goals
    go_ret
    refine ⟨ret_bool ?_, rfl⟩
    rw [← HB.out]
    unfold isNode
    rw [Bool.eq_iff_iff]
    simp
    omega

set_option maxHeartbeats 400000 in
theorem link_no (f t : Int) (hn : isLink N f t = false) : Calls Try.prog 27 #[.pointer (some ⟨nb, 0, none⟩), .int .i64 f, .int .i64 t] w fun e w' => e = .returned (.pointer none) ∧ w = w' := by
  have H1 := has_any w S nb N gb ro bv h f
  have H2 := has_any w S nb N gb ro bv h t
  rw [isLink_eq] at hn
  generalize isNode N f = r1 at *
  generalize isNode N t = r2 at *
  clear h
  rcases r1 with _ | _
  · clear hn
    go_enter Try.func27, Try.ntmps27
    go_wp2_with fail
    refine H1.mono ?_
    rintro e w' ⟨rfl, rfl⟩
    go_wp2_with fail
    go_ret
    exact ⟨rfl, rfl⟩
  · obtain rfl : r2 = false := by simpa using hn
    clear hn
    go_enter Try.func27, Try.ntmps27
    go_wp2_with fail
    refine H1.mono ?_
    rintro e w' ⟨rfl, rfl⟩
    go_wp2_with fail
    refine H2.mono ?_
    rintro e w' ⟨rfl, rfl⟩
    go_wp2_with fail
    go_ret
    exact ⟨rfl, rfl⟩

set_option maxHeartbeats 400000 in
theorem link_yes (f t : Nat) (hf : f < N.nodes) (ht : t < N.nodes) : Calls Try.prog 27 #[.pointer (some ⟨nb, 0, none⟩), .int .i64 (f : Int), .int .i64 (t : Int)] w fun e w' => e = .returned (.pointer (some ⟨ro f, t, none⟩)) ∧ w = w' := by
  have H1 := has_any w S nb N gb ro bv h f
  have H2 := has_any w S nb N gb ro bv h t
  have e1 : isNode N f = true := by simp [isNode]; omega
  have e2 : isNode N t = true := by simp [isNode]; omega
  rw [e1] at H1
  rw [e2] at H2
  have c2 := h.c2
  have cg := h.gridAt hf
  clear h e1 e2
  go_enter Try.func27, Try.ntmps27
  go_wp2_with fail
  refine H1.mono ?_
  rintro e w' ⟨rfl, rfl⟩
  go_wp2_with fail
  refine H2.mono ?_
  rintro e w' ⟨rfl, rfl⟩
  go_wp2_with fail
  go_ret
  exact ⟨rfl, rfl⟩

set_option maxHeartbeats 400000 in
theorem now_any : Calls Try.prog 26 #[.pointer (some ⟨nb, 0, none⟩)] w fun e w' => e = .returned (.int .i64 (N.now : Int)) ∧ w = w' := by
  have c1 := h.c1
  clear h
  go_enter Try.func26, Try.ntmps26
  go_wp2
  go_ret
  exact ⟨rfl, rfl⟩
end

/-- The closure that finds what a pick means, its pick in block c. -/
def fnV (c : Nat) : Value := .func (.func 35) #[] #[.pointer (some ⟨c, 0, none⟩)]
set_option maxHeartbeats 400000 in
theorem meant_any (w : World) (p : Int) : Calls Try.prog 30 #[.int .i64 p] w fun e w' => e = .returned (fnV w.heap.size) ∧ w' = w.alloc (.cells #[.int .i64 p] 3) := by
  go_enter Try.func30, Try.ntmps30
  go_wp2
  go_ret
  exact ⟨rfl, rfl⟩

section
variable (w : World) (S : Nat → Prop) (nb : Nat) (N : PNet) (gb : Nat) (ro : Nat → Nat) (bv : Nat → Nat → Value) (h : NtAt w S nb N gb ro bv)
include h
set_option maxHeartbeats 400000 in
theorem find_yes (f t : Nat) (hf : f < N.nodes) (ht : t < N.nodes) (hc : 0 < cnt N.L f t) (c : Nat) (p : Int) (hp : -9223372036854775808 ≤ p ∧ p ≤ 9223372036854775807) (hcell : w.cell? ⟨c, 0, none⟩ = some (.int .i64 p)) :
    Calls Try.prog 29 #[.pointer (some ⟨nb, 0, none⟩), .int .i64 (f : Int), .int .i64 (t : Int), fnV c] w fun e w' => e = .returned (.tuple #[.pointer (some ⟨ro f, t, none⟩), .int .i64 (pick p (cnt N.L f t) : Int)]) ∧ w = w' := by
  have HL := link_yes w S nb N gb ro bv h f t hf ht
  have hb := h.bags f t hf ht
  have hle := h.wf.cnt f t
  have hb2 := h.wf.b2
  have cr := h.rowAt hf ht
  obtain ⟨q, cap, eq, hq1, hq2, hq3⟩ := hb.shape
  rw [eq] at cr
  have e0 : (bag N.L f t).length = cnt N.L f t := rfl
  rw [e0] at cr hq1
  clear h hb eq hq3
  unfold fnV
  generalize cnt N.L f t = n at *
  have HP : Hid (pick p n = p.toNat % n) := Lib.hid rfl
  generalize pick p n = k at *
  clear e0
  go_enter Try.func29, Try.ntmps29
  go_wp2_with fail
  refine HL.mono ?_
  rintro e w' ⟨rfl, rfl⟩
  have hk1 : p < 0 → (k : Int) = 0 := fun h => by
    rw [HP.out, show p.toNat = 0 by omega]
    simp
  have hk2 : 0 ≤ p → (k : Int) = p % (n : Int) := fun h => by
    rw [HP.out, Int.natCast_emod, Int.toNat_of_nonneg h]
  go_wp2
  all_goals
    go_ret2
    exact ⟨rfl, rfl⟩
set_option maxHeartbeats 400000 in
theorem find_no (f t : Int) (hn : isLink N f t = false) (c : Value) :
    Calls Try.prog 29 #[.pointer (some ⟨nb, 0, none⟩), .int .i64 f, .int .i64 t, c] w fun e w' => e = .returned (.tuple #[.pointer none, .int .i64 0]) ∧ w = w' := by
  have HL := link_no w S nb N gb ro bv h f t hn
  clear h hn
  go_enter Try.func29, Try.ntmps29
  go_wp2_with fail
  refine HL.mono ?_
  rintro e w' ⟨rfl, rfl⟩
  go_wp2_with fail
  go_ret2
  exact ⟨rfl, rfl⟩
set_option maxHeartbeats 400000 in
theorem find_none (f t : Nat) (hf : f < N.nodes) (ht : t < N.nodes) (hc : cnt N.L f t = 0) (c : Value) :
    Calls Try.prog 29 #[.pointer (some ⟨nb, 0, none⟩), .int .i64 (f : Int), .int .i64 (t : Int), c] w fun e w' => e = .returned (.tuple #[.pointer none, .int .i64 0]) ∧ w = w' := by
  have HL := link_yes w S nb N gb ro bv h f t hf ht
  have hb := h.bags f t hf ht
  have cr := h.rowAt hf ht
  obtain ⟨q, cap, eq, hq1, hq2, hq3⟩ := hb.shape
  rw [eq] at cr
  have e0 : (bag N.L f t).length = 0 := hc
  rw [e0] at cr
  clear h hb eq hq3 hc
  go_enter Try.func29, Try.ntmps29
  go_wp2_with fail
  refine HL.mono ?_
  rintro e w' ⟨rfl, rfl⟩
  go_wp2_with fail
  go_ret2
  exact ⟨rfl, rfl⟩
set_option maxHeartbeats 400000 in
theorem blay_no (f t : Nat) (hf : f < N.nodes) (ht : t < N.nodes) (s : Value) (hc : ¬ cnt N.L f t < N.bound) :
    Calls Try.prog 28 #[.pointer (some ⟨ro f, t, none⟩), s, .int .i64 (N.bound : Int)] w fun e w' => e = .returned (.bool false) ∧ w = w' := by
  have hb := h.bags f t hf ht
  have cr := h.rowAt hf ht
  obtain ⟨q, cap, eq, hq1, hq2, hq3⟩ := hb.shape
  rw [eq] at cr
  have e0 : (bag N.L f t).length = cnt N.L f t := rfl
  rw [e0] at cr
  have hd : (N.bound : Int) ≤ (cnt N.L f t : Int) := by omega
  clear h hb eq hq3 hc e0
  generalize cnt N.L f t = n at *
  go_enter Try.func28, Try.ntmps28
  go_wp2_with fail
  go_ret
  exact ⟨rfl, rfl⟩
set_option maxHeartbeats 1000000 in
theorem blay_yes (f t : Nat) (hf : f < N.nodes) (ht : t < N.nodes) (s : List UInt8) (hs : s.length ≤ 1048576) (hc : cnt N.L f t < N.bound) :
    Calls Try.prog 28 #[.pointer (some ⟨ro f, t, none⟩), .string ⟨s.toArray⟩, .int .i64 (N.bound : Int)] w fun e w' => e = .returned (.bool true) ∧ (∃ bv', NtAt w' (More S w.heap.size) nb (lay1 N f t s) gb ro bv') ∧ Fr S w w' := by
  have hb := h.bags f t hf ht
  have cr := h.rowAt hf ht
  have z := h.rowFz hf t
  obtain ⟨q, cap, eq, hq1, hq2, hq3⟩ := hb.shape
  have e0 : (bag N.L f t).length = cnt N.L f t := rfl
  have hd : ¬ (N.bound : Int) ≤ (cnt N.L f t : Int) := by omega
  have hb2 := h.wf.b2
  obtain ⟨v0, hv0⟩ : ∃ v, v = bv f t := ⟨_, rfl⟩
  rw [← hv0] at cr eq hb
  subst eq
  have HH := Lib.hid h
  have HC := Lib.hid hc
  have hrl := h.rowLt hf
  have HL : Hid ((bag N.L f t).length ≤ 65536) := Lib.hid (by rw [e0]; omega)
  rw [e0] at cr hv0 hq1 hb
  obtain ⟨n, hn⟩ : ∃ n, cnt N.L f t = n := ⟨_, rfl⟩
  rw [hn] at cr hv0 hq1 hb hd
  have HB := Lib.hid hb
  have HV := Lib.hid hv0
  clear h hb hq3 hc hv0 hn e0
  go_enter Try.func28, Try.ntmps28
  obtain ⟨w1, hw1⟩ : ∃ w1, w.alloc (.cells #[.string ⟨s.toArray⟩] 9) = w1 := ⟨_, rfl⟩
  have hbl : Below w.heap.size w w1 := by rw [← hw1]; exact (Below.refl _ _).alloc (Nat.le_refl _) _
  have HS : Hid (w1.cell? ⟨w.heap.size, 0, none⟩ = some (.string ⟨s.toArray⟩)) := Lib.hid (by rw [← hw1]; exact cell_of (heap_alloc_new w _) rfl)
  have HBl := Lib.hid hbl
  have HB1 : Hid (BagAt w1 S (.slice q n cap) (bag N.L f t)) := Lib.hid (HB.out.step (Fr.of_new hbl (fun _ => False)) (fun _ _ _ hf => hf) (fun _ _ hs => hs))
  have HW := Lib.hid hw1
  clear hbl
  go_wp2_with (first
    | (at_builtin
       refine wpList_append_bag rfl (.tmp 16) (.tmp 18) rfl HB1.out rfl ⟨w.heap.size, 0, none⟩ 1 s rfl HS.out HL.out ?_
       intro v' w2 hbag hfr hvb
       have hrow := (hfr.block (ro f) (Nat.lt_of_lt_of_le hrl HBl.out.size) (by
         intro e
         obtain ⟨c2, hc2, _⟩ := HB1.out.heap e
         obtain ⟨c3, hc3, _⟩ := (HH.out.after HBl.out).rows f hf
         exact kind_ne hc3 hc2 (by decide) rfl)).trans (HBl.out.block (ro f) hrl)
       have cr2 := (World.cell?_of_block (a := ⟨ro f, t, none⟩) hrow).trans cr
       have z2 := (World.frozen?_of_block (a := ⟨ro f, t, none⟩) hrow).trans z
       have HBag := Lib.hid hbag
       have HFr := Lib.hid hfr
       have HVb := Lib.hid hvb
       have HRow := Lib.hid hrow
       obtain ⟨q2, cap2, rfl, hq21, hq22, hq23⟩ := hbag.shape
       clear hbag hfr hvb hrow hq23))
  go_ret
  have hlen : (bag N.L f t ++ [s]).length = (bag N.L f t).length + 1 := by simp
  have hB2 := HBag.out
  have hV2 := HVb.out
  rw [hlen] at hB2 hV2
  obtain ⟨cur0, hc0, _⟩ := HH.out.rows f hf
  have hmay : may N f t = true := by
    have h1 : isLink N f t = true := by rw [isLink_iff]; omega
    have h2 := HC.out
    rw [may, h1]
    simpa using h2
  have hlay : lay1 N f t s = { N with L := N.L ++ [⟨f, t, s⟩] } := by
    unfold lay1
    rw [if_pos hmay]
    rfl
  have hfr1 : Fr (fun k => k = ro f ∨ (bv f t).ownBlock = some k) w (w2.setCell ⟨ro f, t, none⟩ (.slice q2 ((bag N.L f t).length + 1) cap2)) := by
    have h1 : Fr (fun k => k = ro f ∨ (bv f t).ownBlock = some k) w w1 := Fr.of_new HBl.out _
    have h2 : Fr (fun k => k = ro f ∨ (bv f t).ownBlock = some k) w w2 := h1.then (HFr.out.mono fun k _ hk => .inr (by rw [← HV.out]; exact hk))
    exact h2.then (Fr.setCell _ w2 (.inl rfl) _)
  have hbs : bag (lay1 N f t s).L f t = bag N.L f t ++ [s] := by
    rw [hlay]
    show bag (N.L ++ [_]) f t = _
    rw [bag_snoc, if_pos (by simp [onl])]
  refine ⟨rfl, ⟨_, HH.out.setBag (T := More S w.heap.size) hf ht hfr1 (fun cur hc => setCell_same (HRow.out.trans hc) _) (N' := lay1 N f t s) (v' := .slice q2 ((bag N.L f t).length + 1) cap2) ?_ ?_ (fun _ _ hs => .inl hs) (lay1_nodes _ _ _ _) (lay1_bound _ _ _ _) (lay1_now _ _ _ _) (HH.out.wf.lay1 f t s hs) ?_⟩, ?_⟩
  · rw [hbs]
    exact hB2.keep (fun k hk => setCell_other (fun e => by
      obtain ⟨c2, hc2, _⟩ := hB2.heap hk
      exact kind_ne hc2 (HRow.out.trans hc0) (by decide) e) _) fun k hk hm => hm.elim .inl (fun hle => .inr (Nat.le_trans HBl.out.size hle))
  · rcases hV2 with e | e
    · exact .inl (by rw [e, HV.out])
    · exact .inr fun k hk => Nat.le_trans HBl.out.size (e k hk)
  · intro f' t' hne
    rw [hlay]
    show bag (N.L ++ [_]) f' t' = _
    rw [bag_snoc, if_neg]
    intro ho
    obtain ⟨e1, e2⟩ := onl_iff.1 ho
    exact hne ⟨e1.symm, e2.symm⟩
  · refine hfr1.mono fun k hk hm => ?_
    rcases hm with e | e
    · rw [e]; exact HH.out.inR f hf
    · obtain ⟨_, _, hs⟩ := (HH.out.bags f t hf ht).heap e
      exact hs
end
end Go.Proofs.Ytiffoafjgcjgoaa
