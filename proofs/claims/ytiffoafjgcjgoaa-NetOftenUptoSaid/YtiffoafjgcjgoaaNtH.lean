/-
  The walks over Clear, Links, All.
-/
import Derived.Test.YtiffoafjgcjgoaaNtG
namespace Go.Proofs.Ytiffoafjgcjgoaa
open Go.RowKit

/-! ### Clear -/
def clrLink (f t : Nat) (L : List Msg) : List Msg := L.filter fun m => !onl f t m
def clrUp (n k : Nat) (L : List Msg) : List Msg := L.filter fun m => !((decide (m.src = n) && decide (m.dst < k)) || (decide (m.dst = n) && decide (m.src < k)))
theorem clrLink_bag (f t : Nat) : ∀ (L : List Msg) (f' t' : Nat), bag (clrLink f t L) f' t' = if f' = f ∧ t' = t then [] else bag L f' t'
  | [], _, _ => by simp [clrLink, bag]
  | m :: r, f', t' => by
    have ih := clrLink_bag f t r f' t'
    unfold clrLink at *
    rw [List.filter_cons]
    by_cases hm : onl f t m = true
    · rw [if_neg (by simp [hm]), ih, bag_cons]
      by_cases hm2 : onl f' t' m = true
      · obtain ⟨a, b⟩ := onl_iff.1 hm
        obtain ⟨c, d⟩ := onl_iff.1 hm2
        rw [if_pos ⟨c.symm.trans a, d.symm.trans b⟩, if_pos ⟨c.symm.trans a, d.symm.trans b⟩]
      · rw [if_neg hm2]
    · rw [if_pos (by simp [hm]), bag_cons, bag_cons, ih]
      by_cases hm2 : onl f' t' m = true
      · have hne : ¬ (f' = f ∧ t' = t) := by
          rintro ⟨rfl, rfl⟩
          exact hm hm2
        rw [if_pos hm2, if_pos hm2, if_neg hne, if_neg hne]
      · rw [if_neg hm2, if_neg hm2]
theorem clrUp_zero (n : Nat) (L : List Msg) : clrUp n 0 L = L := by
  unfold clrUp
  rw [List.filter_eq_self]
  intro m _
  simp
theorem clrUp_succ (n k : Nat) (L : List Msg) : clrLink k n (clrLink n k (clrUp n k L)) = clrUp n (k + 1) L := by
  unfold clrLink clrUp
  rw [List.filter_filter, List.filter_filter]
  congr 1
  funext m
  rw [Bool.eq_iff_iff]
  simp [onl]
  omega
theorem clrUp_all {N : PNet} (h : Wf N) (n : Nat) : clrUp n N.nodes N.L = clr (n : Int) N.L := by
  unfold clrUp clr
  refine List.filter_congr fun m hm => ?_
  have := h.inn m hm
  rw [Bool.eq_iff_iff]
  simp
  omega
theorem clr_none {N : PNet} (h : Wf N) {n : Int} (hn : isNode N n = false) : clear_ N n = N := by
  have e : clr n N.L = N.L := by
    unfold clr
    rw [List.filter_eq_self]
    intro m hm
    have := h.inn m hm
    simp [isNode] at hn
    simp
    omega
  show ({ N with L := clr n N.L } : PNet) = N
  rw [e]
theorem filter_wf {N : PNet} (h : Wf N) {L : List Msg} (hs : ∀ m ∈ L, m ∈ N.L) (hc : ∀ f t, cnt L f t ≤ cnt N.L f t) : Wf { N with L := L } :=
  ⟨h.n1, h.n2, h.b1, h.b2, fun m hm => h.inn m (hs m hm), fun m hm => h.txt m (hs m hm), fun f t => Nat.le_trans (hc f t) (h.cnt f t)⟩
theorem clrLink_wf {N : PNet} (h : Wf N) (f t : Nat) : Wf { N with L := clrLink f t N.L } :=
  filter_wf h (fun m hm => (List.mem_filter.1 hm).1) fun f' t' => by
    unfold cnt
    rw [clrLink_bag]
    split
    · exact Nat.zero_le _
    · exact Nat.le_refl _
theorem NtAt.nilBag {w : World} {S : Nat → Prop} {nb : Nat} {N : PNet} {gb : Nat} {ro : Nat → Nat} {bv : Nat → Nat → Value} (h : NtAt w S nb N gb ro bv) {f t : Nat} (hf : f < N.nodes) (ht : t < N.nodes) :
    (∃ bv', NtAt (w.setCell ⟨ro f, t, none⟩ (.slice none 0 0)) S nb { N with L := clrLink f t N.L } gb ro bv') ∧ Fr S w (w.setCell ⟨ro f, t, none⟩ (.slice none 0 0)) := by
  have hfr : Fr (fun k => k = ro f ∨ (bv f t).ownBlock = some k) w (w.setCell ⟨ro f, t, none⟩ (.slice none 0 0)) := Fr.setCell _ w (.inl rfl) _
  refine ⟨⟨_, h.setBag (T := S) hf ht hfr (fun cur hc => setCell_same hc _) (N' := { N with L := clrLink f t N.L }) (v' := .slice none 0 0) ?_ (.inr fun k e => by cases e) (fun _ _ hs => hs) rfl rfl rfl (clrLink_wf h.wf f t) ?_⟩, Fr.setCell S w (p := ⟨ro f, t, none⟩) (h.inR f hf) _⟩
  · show BagAt _ S _ (bag (clrLink f t N.L) f t)
    rw [clrLink_bag, if_pos ⟨rfl, rfl⟩]
    exact BagAt.nil _ _
  · intro f' t' hne
    show bag (clrLink f t N.L) f' t' = _
    rw [clrLink_bag, if_neg hne]

set_option maxRecDepth 100000 in
set_option maxHeartbeats 2000000 in
theorem clear_any (w : World) (S : Nat → Prop) (nb : Nat) (N : PNet) (h : Nt w S nb N) (n : Int) :
    Calls Try.prog 21 #[.pointer (some ⟨nb, 0, none⟩), .int .i64 n] w fun e w' => e = .returned (.tuple #[]) ∧ Nt w' S nb (clear_ N n) ∧ Fr S w w' := by
  obtain ⟨gb, ro, bv, h⟩ := h
  have HA := Lib.hid (has_any w S nb N gb ro bv h n)
  rcases hn : isNode N n with _ | _
  · have HC := Lib.hid (clr_none h.wf hn)
    have HH := Lib.hid h
    rw [hn] at HA
    clear h hn
    go_enter Try.func21, Try.ntmps21
    go_wp2_with fail
    refine HA.out.mono ?_
    rintro e w' ⟨rfl, rfl⟩
    go_wp2_with fail
    (try simp only [Exit.inBlock, Exit.then])
    refine bodyPost_ret (results_none rfl _ _ _) rfl ?_
    rw [HC.out]
    exact ⟨rfl, ⟨gb, ro, bv, HH.out⟩, Fr.refl _ _⟩
  · rw [hn] at HA
    obtain ⟨k0, rfl, hk0⟩ : ∃ k : Nat, n = (k : Int) ∧ k < N.nodes := by
      simp [isNode] at hn
      exact ⟨n.toNat, by omega, by omega⟩
    have HWf := Lib.hid h.wf
    have c2 := h.c2
    have hn16 := h.wf.n2
    have H0 : Hid (∃ bv', NtAt w S nb { N with L := clrUp k0 0 N.L } gb ro bv') := Lib.hid (by rw [clrUp_zero]; exact ⟨bv, h⟩)
    clear h hn
    go_enter Try.func21, Try.ntmps21
    go_wp2_with fail
    refine HA.out.mono ?_
    rintro e w' ⟨rfl, rfl⟩
    go_wp2_with fail
    clear c2
    go_loopw [14] (fun i wr => ∃ k : Nat, k ≤ N.nodes ∧ i = .int .i64 (k : Int) ∧ Hid ((∃ bv', NtAt wr S nb { N with L := clrUp k0 k N.L } gb ro bv') ∧ Fr S w wr)) (fun i _ => N.nodes - (intOf i).toNat)
    case atStart => exact ⟨0, by omega, rfl, Lib.hid ⟨H0.out, Fr.refl _ _⟩⟩
    case round =>
      obtain ⟨k, hk, rfl, HR⟩ := hrel
      by_cases hlt : k < N.nodes
      · obtain ⟨⟨bv1, h1⟩, hf1⟩ := HR.out
        obtain ⟨⟨bv2, h2⟩, hf2⟩ := h1.nilBag (f := k0) (t := k) hk0 hlt
        obtain ⟨⟨bv3, h3⟩, hf3⟩ := h2.nilBag (f := k) (t := k0) hlt hk0
        have c2 := h1.c2
        have cg := h1.gridAt (f := k0) hk0
        have cr := h1.rowAt (f := k0) (t := k) hk0 hlt
        have zr := h1.rowFz (f := k0) hk0 k
        obtain ⟨W, hW⟩ : ∃ W, wr.setCell ⟨ro k0, k, none⟩ (.slice none 0 0) = W := ⟨_, rfl⟩
        rw [hW] at h2 hf2 h3 hf3
        have d2 := h2.c2
        have dg := h2.gridAt (f := k) hlt
        have dr := h2.rowAt (f := k) (t := k0) hlt hk0
        have dz := h2.rowFz (f := k) hlt k0
        have H3 := Lib.hid h3
        have HF3 := Lib.hid ((hf1.then hf2).then hf3)
        have HK := Lib.hid (clrUp_succ k0 k N.L)
        clear h1 hf1 h2 hf2 h3 hf3 HR
        simp only at c2 cg cr zr d2 dg dr dz
        generalize bv1 k0 k = x1 at *
        generalize bv2 k k0 = x2 at *
        go_wp2_with fail
        go_roundw
        case rel => exact ⟨k + 1, by omega, by go_num, Lib.hid ⟨by rw [← HK.out]; exact ⟨bv3, H3.out⟩, HF3.out⟩⟩
        case measure => simp [intOf]; omega
      · obtain rfl : k = N.nodes := by omega
        go_wp2_with fail
        go_end0
        obtain ⟨⟨bv1, h1⟩, hf1⟩ := HR.out
        rw [clrUp_all HWf.out] at h1
        exact ⟨rfl, ⟨gb, ro, bv1, h1⟩, hf1⟩
end Go.Proofs.Ytiffoafjgcjgoaa
