/-
  The walks over sort.Search, merge.newest and its closure: where the newest version up to a number stands among those of one key.
-/
import Derived.Test.YteclnnjijfbfoaaMgB
import Derived.Test.YteclnnjijfbfoaaMgC
namespace Go.Proofs.Yteclnnjijfbfoaa
open Go.RowKit

set_option maxRecDepth 100000 in
set_option maxHeartbeats 2000000 in
theorem srt_search (w : World) (g : Nat) (lb : Array Value) (n m : Nat) (hm : m ≤ n) (hn : n ≤ 1048576)
    (hf : ∀ V, Below w.heap.size w V → ∀ i, i < n → Calls Try.prog g (#[.int .i64 (i : Int)] ++ lb) V fun e V' => e = .returned (.bool (decide (m ≤ i))) ∧ Below V.heap.size V V')
    (eg : ∀ args W, (callFunc g args).run Try.prog W = .ok (.enter g args) W) :
    Calls Try.prog 55 #[.int .i64 (n : Int), .func (.func g) #[] lb] w fun e w' => e = .returned (.int .i64 (m : Int)) ∧ Below w.heap.size w w' := by
  have HF := Lib.hid hf
  clear hf
  go_enter Try.func55, Try.ntmps55
  go_wp2_with fail
  go_loopw [5, 6] (fun s5 s6 wr => ∃ lo hi : Nat, s5 = .int .i64 (lo : Int) ∧ s6 = .int .i64 (hi : Int) ∧ lo ≤ m ∧ m ≤ hi ∧ hi ≤ n ∧ Below w.heap.size w wr) (fun s5 s6 _ => (intOf s6 - intOf s5).toNat)
  case atStart => exact ⟨0, n, rfl, rfl, by omega, hm, Nat.le_refl _, Below.refl _ _⟩
  case round =>
    obtain ⟨lo, hi, rfl, rfl, h1, h2, h3, hb⟩ := hrel
    have HB := Lib.hid hb
    clear hb
    by_cases hlt : lo < hi
    · have hc := HF.out wr HB.out ((lo + hi) / 2) (by omega)
      rw [show (((lo + hi) / 2 : Nat) : Int) = ((lo : Int) + (hi : Int)) / 2 by omega] at hc
      have HC := Lib.hid hc
      clear hc
      by_cases hp : m ≤ (lo + hi) / 2
      · have hd : decide (m ≤ (lo + hi) / 2) = true := decide_eq_true hp
        rw [hd] at HC
        clear hd
        go_wp2_with (go_at_fn g; refine HC.out.mono ?_; rintro e w1 ⟨rfl, hb1⟩; have HB1 := Lib.hid hb1; clear hb1)
        go_roundw
        case rel => exact ⟨lo, (lo + hi) / 2, rfl, by go_num, h1, hp, by omega, HB.out.trans (HB1.out.mono HB.out.size)⟩
        case measure => simp [intOf]; omega
      · have hd : decide (m ≤ (lo + hi) / 2) = false := decide_eq_false hp
        rw [hd] at HC
        clear hd
        go_wp2_with (go_at_fn g; refine HC.out.mono ?_; rintro e w1 ⟨rfl, hb1⟩; have HB1 := Lib.hid hb1; clear hb1)
        go_roundw
        case rel => exact ⟨(lo + hi) / 2 + 1, hi, by go_num, rfl, by omega, h2, h3, HB.out.trans (HB1.out.mono HB.out.size)⟩
        case measure => simp [intOf]; omega
    · obtain rfl : lo = m := by omega
      obtain rfl : hi = lo := by omega
      go_wp2_with fail
      go_ret
      exact ⟨rfl, HB.out⟩

/-- Up to a number or not: so stand the versions of one key. -/
theorem newN_at {up : Nat} {p : List Ent} (hs : SrtE p) (hk : ∀ x ∈ p, ∀ y ∈ p, x.key = y.key) {i : Nat} (hi : i < p.length) : decide (newN up p ≤ i) = decide (p[i].seq ≤ up) := by
  rcases Nat.lt_or_ge i (newN up p) with h | h
  · have h1 := newN_lo h hi
    rw [decide_eq_false (by omega), decide_eq_false (by omega)]
  · have hn : newN up p < p.length := by omega
    have h1 := newN_hi hn
    have h2 : p[i].seq ≤ up := by
      rcases Nat.eq_or_lt_of_le h with e | h3
      · have : p[newN up p].seq = p[i].seq := by simp only [e]
        omega
      · have := srt_seq hs hk hi h3
        omega
    rw [decide_eq_true h, decide_eq_true h2]

set_option maxRecDepth 100000 in
set_option maxHeartbeats 2000000 in
theorem mg_newest1 (w : World) (F : Nat → Prop) (bv bu up : Nat) (v : Value) (es : List Ent) (hv : w.cell? ⟨bv, 0, none⟩ = some v) (hu : w.cell? ⟨bu, 0, none⟩ = some (.int .u64 (up : Int))) (h : En w F v es) {i : Nat} (hi : i < es.length) :
    Calls Try.prog 56 #[.int .i64 (i : Int), .pointer (some ⟨bv, 0, none⟩), .pointer (some ⟨bu, 0, none⟩)] w fun e w' => e = .returned (.bool (decide (es[i].seq ≤ up))) ∧ Below w.heap.size w w' := by
  obtain ⟨p, cap, rfl, hlc, hl47, hcm, _⟩ := h.form
  obtain ⟨b1, off1, q1, c1, rfl, hb1, _, hV1, d0, d1, d2, d3⟩ := h.at_ (List.getElem?_eq_getElem hi)
  generalize es[i] = x at *
  have hiz : (i : Int) < (es.length : Int) := by omega
  have hi0 : (0 : Int) ≤ (i : Int) := by omega
  clear h hV1 hb1 d0 d2 d3
  by_cases hq : x.seq ≤ up
  · have q1 : decide ((x.seq : Int) ≤ (up : Int)) = true := decide_eq_true (by omega)
    have q1n : decide (x.seq ≤ up) = true := decide_eq_true hq
    rw [q1n]
    clear hq
    go_enter Try.func56, Try.ntmps56
    go_wp2_with fail
    go_quiet (fail)
    go_wp2_with fail
    go_ret
    exact ⟨rfl, below_drewN (Below.refl _ _) _⟩
  · have q1 : decide ((x.seq : Int) ≤ (up : Int)) = false := decide_eq_false (by omega)
    have q1n : decide (x.seq ≤ up) = false := decide_eq_false hq
    rw [q1n]
    clear hq
    go_enter Try.func56, Try.ntmps56
    go_wp2_with fail
    go_quiet (fail)
    go_wp2_with fail
    go_ret
    exact ⟨rfl, below_drewN (Below.refl _ _) _⟩

set_option maxRecDepth 100000 in
set_option maxHeartbeats 2000000 in
theorem mg_newest (w : World) (F : Nat → Prop) (up : Nat) (v : Value) (es : List Ent) (h : En w F v es) (hl : es.length ≤ 1048576) (hs : SrtE es) (hk : ∀ x ∈ es, ∀ y ∈ es, x.key = y.key) :
    Calls Try.prog 37 #[v, .int .u64 (up : Int)] w fun e w' => e = .returned (.int .i64 (newN up es : Int)) ∧ Below w.heap.size w w' := by
  obtain ⟨X, hX⟩ : ∃ X, (w.alloc (.cells #[v] 26)).alloc (.cells #[.int .u64 (up : Int)] 22) = X := ⟨_, rfl⟩
  have hb : Below w.heap.size w X := by rw [← hX]; exact ((Below.refl _ _).alloc (Nat.le_refl _) _).alloc (by simp) _
  have hXa : X.heap[w.heap.size]? = some (.cells #[v] 26 (0, 0)) := by
    rw [← hX]
    exact (alloc_old (by simp) _).trans (heap_alloc_new w _)
  have hXb : X.heap[w.heap.size + 1]? = some (.cells #[.int .u64 (up : Int)] 22 (0, 0)) := by
    rw [← hX]
    exact heap_alloc2_new w _ _
  have a0 := cell_of (i := 0) hXa rfl
  have HS := Lib.hid (srt_search X 56 #[.pointer (some ⟨w.heap.size, 0, none⟩), .pointer (some ⟨w.heap.size + 1, 0, none⟩)] es.length (newN up es) (newN_le up es) hl
    (fun V hV i hi => by
      have h1 := mg_newest1 V F w.heap.size (w.heap.size + 1) up v es (cell_of ((hV.block _ (block_lt hXa)).trans hXa) rfl) (cell_of ((hV.block _ (block_lt hXb)).trans hXb) rfl) ((h.below hb).below hV) hi
      rw [newN_at hs hk hi]
      exact h1) (enters_of Try.func56 (by kernel_rfl) rfl))
  obtain ⟨p, cap, rfl, hlc, hl47, hcm, _⟩ := h.form
  have HB := Lib.hid hb
  clear h hs hk hb hXa hXb
  go_enter Try.func37, Try.ntmps37
  go_wp2_with fail
  refine HS.out.mono ?_
  rintro r w1 ⟨rfl, hb1⟩
  go_wp2_with fail
  go_ret
  exact ⟨rfl, HB.out.trans (hb1.mono HB.out.size)⟩
end Go.Proofs.Yteclnnjijfbfoaa
