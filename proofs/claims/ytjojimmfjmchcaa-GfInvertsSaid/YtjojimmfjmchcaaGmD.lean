/-
  The walks over the reference's blank, Unit, Cauchy.
-/
import Derived.Test.YtjojimmfjmchcaaGmC
namespace Go.Proofs.Ytjojimmfjmchcaa
open Go.RowKit

/-- What one row more makes of a matrix of one's own: the row lies in a block of its own, beside a slice of it alone. -/
theorem OwL.push1 {wr Y Y2 w3 : World} {G : Nat → Prop} {v v' u : Value} {us : List Value} {rows : List (List UInt8)} {l : List UInt8} (h : OwL wr G v us rows) (hY : Below wr.heap.size wr Y) (ho : Own Y wr.heap.size u l) (hY2 : Y2 = Y.alloc (.cells #[u] 48)) (hG : ∀ b, wr.heap.size ≤ b → G b)
    (hrow : w3.ownsRow 0 48 1 v' (rows.length + 1) (us ++ [u])) (hg : Y2.grownBy w3 v.ownBlock) (ha : v'.ownBlock = v.ownBlock ∨ v'.ownBlock = some Y2.heap.size) : OwL w3 G v' (us ++ [u]) (rows ++ [l]) := by
  subst hY2
  have hYY : Below Y.heap.size Y (Y.alloc (.cells #[u] 48)) := bel_alloc _ _
  refine ((h.below hY).below hYY).push hrow hg (fun b hb => ?_) (row_zero (ho.after hYY)) (fun b hb => hG b (World.ownsRow.lt ho b hb).1) fun i u' b hu' hb e => ?_
  · rcases ha with ha | ha
    · rw [ha] at hb
      exact h.blk b hb
    · rw [ha] at hb
      obtain rfl := Option.some.inj hb
      refine hG _ ?_
      have := hY.size
      simp only [World.size_alloc]
      omega
  · have h1 := (World.ownsRow.lt ho b hb).1
    have h2 := h.lt hu' e
    omega
theorem below_push {w wr Y2 w3 : World} {v : Value} {us : List Value} {rows : List (List UInt8)} (h : OwL wr (fun k => w.heap.size ≤ k) v us rows) (hb : Below w.heap.size w wr) (hY : Below wr.heap.size wr Y2) (hg : Y2.grownBy w3 v.ownBlock) : Below w.heap.size w w3 := by
  refine (hb.trans (hY.mono hb.size)).trans ((Below.refl _ Y2).grown hg (Nat.le_trans hb.size hY.size) fun k hk => h.blk k hk)
theorem one_cl {Y : World} (u : Value) (F : Nat → Prop) (hF : F Y.heap.size) : Cl (Y.alloc (.cells #[u] 48)) F (.slice (some ⟨Y.heap.size, 0, none⟩) 1 1) 1 [u] :=
  Cl.new Y F 1 [u] _ 48 rfl (by omega) hF

set_option maxRecDepth 100000 in
set_option maxHeartbeats 1000000 in
theorem blank_any (w : World) (r c : Nat) (hr : r ≤ 1048576) (hc : c ≤ 1048576) :
    Calls Try.prog 43 #[.int .i64 (r : Int), .int .i64 (c : Int)] w fun e w' => ∃ v us, e = .returned v ∧ OwL w' (fun k => w.heap.size ≤ k) v us (tabM r c zerF) ∧ Below w.heap.size w w' := by
  have hmb := mk_bytes c (by omega)
  go_enter Try.func43, Try.ntmps43
  obtain ⟨Z, hZ⟩ : ∃ Z, (bs (zeroR c)).toArray = Z := ⟨_, rfl⟩
  have HZ : Hid (∀ W : World, Own (W.alloc (.cells Z 5)) W.heap.size (.slice (some ⟨W.heap.size, 0, none⟩) c c) (zeroR c)) := Lib.hid (fun W => by rw [← hZ]; exact own_made W c (by omega))
  rw [hZ] at hmb
  clear hZ
  go_wp2_with fail
  go_loopw [5, 6] (fun v i wr => ∃ (k : Nat) (us : List Value), k ≤ r ∧ i = .int .i64 (k : Int) ∧ OwL wr (fun k => w.heap.size ≤ k) v us (tabM k c zerF) ∧ Below w.heap.size w wr) (fun _ i _ => r - (intOf i).toNat)
  case atStart => exact ⟨0, [], by omega, rfl, OwL.nil _ _, Below.refl _ _⟩
  case round =>
    obtain ⟨k, us, hk, rfl, ho, hb⟩ := hrel
    obtain ⟨v, hv⟩ : ∃ v, v = u5 := ⟨_, rfl⟩
    subst hv
    have HO := Lib.hid ho
    have HB := Lib.hid hb
    by_cases hlt : k < r
    · have d1 : decide ((k : Int) < (r : Int)) = true := decide_eq_true (by omega)
      have d2 : decide (k < r) = true := decide_eq_true hlt
      obtain ⟨Y, hY⟩ : ∃ Y, wr.alloc (.cells Z 5) = Y := ⟨_, rfl⟩
      have hYb : Below wr.heap.size wr Y := by rw [← hY]; exact bel_alloc _ _
      have HYo : Hid (Own Y wr.heap.size (.slice (some ⟨wr.heap.size, 0, none⟩) c c) (zeroR c)) := Lib.hid (by rw [← hY]; exact HZ.out wr)
      obtain ⟨Y2, hY2⟩ : ∃ Y2, Y.alloc (.cells #[.slice (some ⟨wr.heap.size, 0, none⟩) c c] 48) = Y2 := ⟨_, rfl⟩
      have hYb2 : Below wr.heap.size wr Y2 := by rw [← hY2]; exact hYb.alloc hYb.size _
      have HCl : Hid (Cl Y2 (fun _ => True) (.slice (some ⟨Y.heap.size, 0, none⟩) 1 1) 1 [.slice (some ⟨wr.heap.size, 0, none⟩) c c]) := Lib.hid (by rw [← hY2]; exact one_cl _ _ trivial)
      have HRow : Hid (Y2.ownsRow 0 48 1 v k us) := Lib.hid (by have h := (HO.out.below hYb2).row; rw [tabM_len] at h; exact h)
      have HYb := Lib.hid hYb
      have HYb2 := Lib.hid hYb2
      have HY2 := Lib.hid hY2.symm
      clear ho hb hYb hYb2
      go_wp2_with (first
        | (at_builtin
           refine slMx.wpList_append rfl (.tmp 12) (.tmp 15) rfl 0 (v := v) (u := .slice (some ⟨Y.heap.size, 0, none⟩) 1 1) rfl rfl HRow.out HCl.out rfl (fun x hx => by rw [List.mem_singleton.1 hx]; rfl) (by omega) (Nat.zero_le _) ?_
           intro v' w3 ho3 hg3 ha3
           have HNx : Hid (OwL w3 (fun k => w.heap.size ≤ k) v' (us ++ [.slice (some ⟨wr.heap.size, 0, none⟩) c c]) (tabM k c zerF ++ [zeroR c])) := Lib.hid (HO.out.push1 HYb.out HYo.out HY2.out (fun b hb => Nat.le_trans HB.out.size hb) (by rw [tabM_len]; exact ho3) hg3 ha3)
           have HNb := Lib.hid (below_push HO.out HB.out HYb2.out hg3)
           clear ho3 hg3 ha3))
      refine ⟨⟨k + 1, _, by omega, by go_num, by rw [tabM_snoc]; exact HNx.out, HNb.out⟩, by simp [intOf]; omega⟩
    · obtain rfl : k = r := by omega
      clear ho hb
      go_wp2_with fail
      go_ret
      exact ⟨_, us, rfl, HO.out, HB.out⟩
end Go.Proofs.Ytjojimmfjmchcaa
