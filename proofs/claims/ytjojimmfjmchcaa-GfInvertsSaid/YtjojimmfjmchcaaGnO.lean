/-
  The walks over the reference's scale and mix; two rows of a matrix of one's own put in each other's place.
-/
import Derived.Test.YtjojimmfjmchcaaGnM
import Derived.Test.YtjojimmfjmchcaaGnJ
namespace Go.Proofs.Ytjojimmfjmchcaa
open Go.RowKit

/-- The first j elements of a row taken to others. -/
def frF (h g : Nat → G8) (j : Nat) : Nat → G8 := fun k => if k < j then h k else g k
theorem frF_zero (h g : Nat → G8) : frF h g 0 = g := by
  funext k
  unfold frF
  rw [if_neg (by omega)]
theorem frF_all (h g : Nat → G8) (n : Nat) : rowM n (frF h g n) = rowM n h := rowM_congr fun k hk => by
  unfold frF
  rw [if_pos hk]
theorem frF_at (h g : Nat → G8) (j : Nat) : frF h g j j = g j := by
  unfold frF
  rw [if_neg (by omega)]
theorem frF_set (h g : Nat → G8) (n j : Nat) : (rowM n (frF h g j)).set j (UInt8.ofBitVec (h j)) = rowM n (frF h g (j + 1)) := by
  rw [rowM_set]
  refine rowM_congr fun k hk => ?_
  unfold upF frF
  by_cases e : k = j
  · subst e
    rw [if_pos rfl, if_pos (by omega)]
  · rw [if_neg e]
    by_cases h2 : k < j
    · rw [if_pos h2, if_pos (by omega)]
    · rw [if_neg h2, if_neg (by omega)]
set_option maxRecDepth 100000 in
set_option maxHeartbeats 1000000 in
theorem scale_any (w : World) (bt ct n : Nat) (b : G8) (g : Nat → G8) (ho : Own w 0 (.slice (some ⟨bt, 0, none⟩) n ct) (rowM n g)) (hn : n ≤ 1048576) :
    Calls Try.prog 52 #[.slice (some ⟨bt, 0, none⟩) n ct, .int .u8 (b.toNat : Int)] w fun e w' => e = .returned (.tuple #[]) ∧ Own w' 0 (.slice (some ⟨bt, 0, none⟩) n ct) (rowM n fun k => mulG (g k) b) ∧ Fr (fun k => k = bt) w w' := by
  have HO := Lib.hid ho
  clear ho
  go_enter Try.func52, Try.ntmps52
  go_wp2_with fail
  go_loopw [4] (fun i wr => ∃ j : Nat, j ≤ n ∧ i = .int .i64 (j : Int) ∧ Own wr 0 (.slice (some ⟨bt, 0, none⟩) n ct) (rowM n (frF (fun k => mulG (g k) b) g j)) ∧ Fr (fun k => k = bt) w wr) (fun i _ => n - (intOf i).toNat)
  case atStart => exact ⟨0, by omega, rfl, by rw [frF_zero]; exact HO.out, Fr.refl _ _⟩
  case round =>
    obtain ⟨j, hj, rfl, ho, hf⟩ := hrel
    have HO2 := Lib.hid ho
    have HF := Lib.hid hf
    by_cases hlt : j < n
    · have d1 : decide ((j : Int) < (n : Int)) = true := decide_eq_true (by omega)
      have d2 : decide (j < n) = true := decide_eq_true hlt
      obtain ⟨c2, f2⟩ := own_cell ho (i := j) (by rw [rowM_len]; exact hlt)
      rw [rowM_nat hlt, frF_at] at c2
      have HM := Lib.hid (fun W => rmul_any W (g j) b)
      have HS : Hid ((rowM n (frF (fun k => mulG (g k) b) g j)).set j (UInt8.ofBitVec (mulG (g j) b)) = rowM n (frF (fun k => mulG (g k) b) g (j + 1))) := Lib.hid (frF_set (fun k => mulG (g k) b) g n j)
      generalize mulG (g j) b = y at *
      generalize g j = x at *
      clear ho hf
      go_wp2_with fail
      refine (HM.out _).mono ?_
      rintro e w' ⟨rfl, rfl⟩
      go_wp2_with fail
      refine ⟨⟨j + 1, by omega, by go_num, ?_, HF.out.then (Fr.setCell (fun k => k = bt) wr (p := ⟨bt, j, none⟩) rfl _)⟩, by simp [intOf]; omega⟩
      have h := own_set (i := j) HO2.out (UInt8.ofBitVec y)
      rw [HS.out] at h
      exact h
    · obtain rfl : j = n := by omega
      clear ho hf
      go_wp2_with fail
      go_end0
      exact ⟨rfl, by rw [← frF_all _ g]; exact HO2.out, HF.out⟩
set_option maxRecDepth 100000 in
set_option maxHeartbeats 1000000 in
theorem mix_any (w : World) (bt ct n bf of cf : Nat) (b : G8) (f g : Nat → G8) (ho : Own w 0 (.slice (some ⟨bt, 0, none⟩) n ct) (rowM n g)) (hlf : bf < w.heap.size) (hcf : n ≤ cf) (hn : n ≤ 1048576)
    (hf : ∀ j, j < n → w.cell? ⟨bf, of + j, none⟩ = some (.int .u8 ((f j).toNat : Int))) (hsep : bf ≠ bt) :
    Calls Try.prog 53 #[.slice (some ⟨bt, 0, none⟩) n ct, .slice (some ⟨bf, of, none⟩) n cf, .int .u8 (b.toNat : Int)] w fun e w' => e = .returned (.tuple #[]) ∧ Own w' 0 (.slice (some ⟨bt, 0, none⟩) n ct) (rowM n fun k => g k ^^^ mulG (f k) b) ∧ Fr (fun k => k = bt) w w' := by
  have HO := Lib.hid ho
  have HC := Lib.hid hf
  clear ho hf
  go_enter Try.func53, Try.ntmps53
  go_wp2_with fail
  go_loopw [6] (fun i wr => ∃ j : Nat, j ≤ n ∧ i = .int .i64 (j : Int) ∧ Own wr 0 (.slice (some ⟨bt, 0, none⟩) n ct) (rowM n (frF (fun k => g k ^^^ mulG (f k) b) g j)) ∧ Fr (fun k => k = bt) w wr) (fun i _ => n - (intOf i).toNat)
  case atStart => exact ⟨0, by omega, rfl, by rw [frF_zero]; exact HO.out, Fr.refl _ _⟩
  case round =>
    obtain ⟨j, hj, rfl, ho, hfr⟩ := hrel
    have HO2 := Lib.hid ho
    have HF := Lib.hid hfr
    by_cases hlt : j < n
    · have d1 : decide ((j : Int) < (n : Int)) = true := decide_eq_true (by omega)
      have d2 : decide (j < n) = true := decide_eq_true hlt
      obtain ⟨c2, f2⟩ := own_cell ho (i := j) (by rw [rowM_len]; exact hlt)
      rw [rowM_nat hlt, frF_at] at c2
      have c1 : wr.cell? ⟨bf, of + j, none⟩ = some (.int .u8 ((f j).toNat : Int)) := (World.cell?_of_block (hfr.block bf hlf hsep)).trans (HC.out j hlt)
      have HM2 : Hid (Calls Try.prog 20 #[.int .u8 ((f j).toNat : Int), .int .u8 (b.toNat : Int)] wr.drew fun e w' => e = .returned (.int .u8 ((mulG (f j) b).toNat : Int)) ∧ w' = wr.drew) := Lib.hid (q_turn (rmul_any _ _ _))
      have hx2 := bxor (g j) (mulG (f j) b)
      have HS : Hid ((rowM n (frF (fun k => g k ^^^ mulG (f k) b) g j)).set j (UInt8.ofBitVec (g j ^^^ mulG (f j) b)) = rowM n (frF (fun k => g k ^^^ mulG (f k) b) g (j + 1))) := Lib.hid (frF_set (fun k => g k ^^^ mulG (f k) b) g n j)
      generalize g j ^^^ mulG (f j) b = z at *
      generalize mulG (f j) b = y at *
      generalize g j = x at *
      generalize f j = u at *
      clear ho hfr
      go_wp2_with fail
      refine wp_region_quiet_tail 14 (by kernel_rfl) (by kernel_rfl) ?_
      simp only [List.take_succ_cons, List.take_zero, List.drop_succ_cons, List.drop_zero]
      repeat (go_big_quiet_step (exact HM2.out _))
      refine wpQuiet_nil ?_
      go_wp2_with fail
      refine ⟨⟨j + 1, by omega, by go_num, ?_, HF.out.then ((Fr.refl _ wr).drew.then (Fr.setCell (fun k => k = bt) wr.drew (p := ⟨bt, j, none⟩) rfl _))⟩, by simp [intOf]; omega⟩
      have h := own_set (i := j) (HO2.out.after (below_drew (Below.refl _ _))) (UInt8.ofBitVec z)
      rw [HS.out] at h
      exact h
    · obtain rfl : j = n := by omega
      clear ho hfr
      go_wp2_with fail
      go_end0
      exact ⟨rfl, by rw [← frF_all _ g]; exact HO2.out, HF.out⟩

theorem OwL.reseat {w w' : World} {G : Nat → Prop} {v : Value} {us us' : List Value} {rows rows' : List (List UInt8)} (h : OwL w G v us rows) (hrow : w'.ownsRow 0 48 1 v rows'.length us') (hf : ∀ k, k < w.heap.size → v.ownBlock ≠ some k → w'.heap[k]? = w.heap[k]?)
    (σ : Nat → Nat) (hu : ∀ (i : Nat) (x : Value), us'[i]? = some x → us[σ i]? = some x) (hr : ∀ (i : Nat) (x : List UInt8), rows'[i]? = some x → rows[σ i]? = some x) (hi : ∀ i j, σ i = σ j → i = j) : OwL w' G v us' rows' := by
  refine ⟨hrow, fun i x l hx hl => ?_, h.blk, fun i x b hx hb => h.blks (σ i) x b (hu i x hx) hb, fun i j x y b hij hx hy hb => h.apart (σ i) (σ j) x y b (fun e => hij (hi i j e)) (hu i x hx) (hu j y hy) hb⟩
  have ho := h.own (σ i) x l (hu i x hx) (hr i l hl)
  refine ho.keep fun b hb => hf b (own_lt ho hb) fun e => ?_
  exact h.ne e (hu i x hx) hb rfl
/-- Two places change. -/
def swI (c p i : Nat) : Nat := if i = c then p else if i = p then c else i
theorem swI_inj (c p : Nat) : ∀ i j, swI c p i = swI c p j → i = j := fun i j h => by
  unfold swI at h
  split at h <;> split at h <;> (try split at h) <;> (try split at h) <;> omega
theorem swap_at {α : Type} {l : List α} {c p : Nat} {x y : α} (hc : l[c]? = some x) (hp : l[p]? = some y) (i : Nat) : ((l.set c y).set p x)[i]? = l[swI c p i]? := by
  have hcl := (List.getElem?_eq_some_iff.1 hc).1
  have hpl := (List.getElem?_eq_some_iff.1 hp).1
  rw [List.getElem?_set, List.getElem?_set]
  unfold swI
  by_cases h1 : i = c
  · subst h1
    rw [if_pos rfl]
    by_cases h2 : p = i
    · subst h2
      rw [if_pos rfl, if_pos (by simpa using hpl), if_pos rfl, hc]
    · rw [if_neg h2, if_pos rfl, if_pos hcl, hp]
  · rw [if_neg h1]
    by_cases h2 : i = p
    · subst h2
      rw [if_pos rfl, if_pos rfl, if_pos (by simpa using hpl), hc]
    · rw [if_neg h2, if_neg (fun e => h2 e.symm), if_neg (fun e => h1 e.symm)]
theorem OwL.swap {w : World} {G : Nat → Prop} {mb n cap c p : Nat} {us : List Value} {a : MtF} {uc up : Value} (h : OwL w G (.slice (some ⟨mb, 0, none⟩) n cap) us (tabM n n a)) (hc : c < n) (hp : p < n) (huc : us[c]? = some uc) (hup : us[p]? = some up) :
    OwL ((w.setCell ⟨mb, c, none⟩ up).setCell ⟨mb, p, none⟩ uc) G (.slice (some ⟨mb, 0, none⟩) n cap) ((us.set c up).set p uc) (tabM n n (swF c p a)) := by
  have e2 : tabM n n (swF c p a) = ((tabM n n a).set c (rowM n (a p))).set p (rowM n (a c)) := by
    refine List.ext_getElem? fun i => ?_
    rw [swap_at (tabM_at hc n a) (tabM_at hp n a)]
    by_cases hi : i < n
    · rw [tabM_at hi]
      have : swI c p i < n := by
        unfold swI
        split
        · exact hp
        · split
          · exact hc
          · exact hi
      rw [tabM_at this]
      rfl
    · rw [List.getElem?_eq_none (by rw [tabM_len]; omega), List.getElem?_eq_none]
      rw [tabM_len]
      unfold swI
      rw [if_neg (by omega), if_neg (by omega)]
      omega
  have hf : Fr (fun k => k = mb) w ((w.setCell ⟨mb, c, none⟩ up).setCell ⟨mb, p, none⟩ uc) := (Fr.setCell (fun k => k = mb) w (p := ⟨mb, c, none⟩) rfl _).then (Fr.setCell (fun k => k = mb) _ (p := ⟨mb, p, none⟩) rfl _)
  refine h.reseat ?_ (fun k hk hne => hf.block k hk fun e => hne (by rw [e]; rfl)) (swI c p) (fun i x hx => by rw [swap_at huc hup] at hx; exact hx) (fun i x hx => by
    rw [e2, swap_at (tabM_at hc n a) (tabM_at hp n a)] at hx
    exact hx) (swI_inj c p)
  have hl : (tabM n n (swF c p a)).length = (tabM n n a).length := by rw [tabM_len, tabM_len]
  rw [hl]
  rcases h.row.2 with ⟨e, _⟩ | ⟨g', cap', cur, e, hb, hg, hn, hm, hs, ht⟩
  · cases e
  · obtain ⟨rfl, h9, rfl⟩ : mb = g' ∧ n = (tabM n n a).length ∧ cap = cap' := by
      simp only [Value.slice.injEq, Option.some.injEq, Addr.mk.injEq] at e
      exact ⟨e.1.1, e.2.1, e.2.2⟩
    refine ⟨by have := h.row.1; simp only [List.length_set]; omega, .inr ⟨mb, cap, (cur.setIfInBounds c up).setIfInBounds p uc, e, hb, setCell_same (setCell_same hg _) _, hn, hm, by simpa using hs, ?_⟩⟩
    rw [← ht]
    simp [List.take_set]
end Go.Proofs.Ytjojimmfjmchcaa
