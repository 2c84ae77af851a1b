/-
  The walks over play.
-/
import Derived.Test.YtlekffhacmdnnaaFroW
namespace Go.Proofs.Ytlekffhacmdnnaa
open Go.RowKit

/-- A play alone, ahead of a round. -/
structure Ply (S : Nat → Prop) (c k : Nat) (w wr : World) (db rb : Nat) (D E : Dsk) : Prop where
  pair : Pair (More S w.heap.size) wr db rb D E
  fr : Fr S w wr
  lenD : D.files.length ≤ c + k
  lenE : E.files.length ≤ k
  bornD : D.born ≤ c + k
  bornE : E.born ≤ k
theorem Ply.next {S : Nat → Prop} {c k : Nat} {w wr w' : World} {db rb : Nat} {D E : Dsk} {x : PAct} (h : Ply S c k w wr db rb D E) (hp : Pair (More (More S w.heap.size) wr.heap.size) w' db rb (act D x) (act E x)) (hf : Fr (More S w.heap.size) wr w') : Ply S c (k + 1) w w' db rb (act D x) (act E x) := by
  have hl := h.fr.size
  refine ⟨hp.mono fun j _ hj => hj.elim id fun hle => .inr (Nat.le_trans hl hle), h.fr.trans hf, ?_, ?_, ?_, ?_⟩
  · have := act_len D h.pair.one.srt x
    have := h.lenD
    omega
  · have := act_len E h.pair.two.srt x
    have := h.lenE
    omega
  · have := act_born D x
    have := h.bornD
    omega
  · have := act_born E x
    have := h.bornE
    omega

set_option maxRecDepth 100000 in
set_option maxHeartbeats 4000000 in
theorem play_any (w : World) (S : Nat → Prop) (db : Nat) (D : Dsk) (h : Dk w S db D) (v : Value) (xs : List PAct) (hv : RdA w S v xs) (hfit : ∀ x ∈ xs, FitA x) (hxl : xs.length ≤ 1048576) (c : Nat) (hc : c ≤ 16777216) (hD : D.files.length ≤ c) (hb : D.born ≤ c) :
    Calls Try.prog 27 #[.pointer (some ⟨db, 0, none⟩), v] w fun e w' => e = .returned (.tuple #[]) ∧ Dk w' (More S w.heap.size) db (plays D xs) ∧ Fr S w w' ∧ (plays D xs).files.length ≤ c + xs.length := by
  have HV := Lib.hid hv
  have HFit := Lib.hid hfit
  have HD := Lib.hid h
  obtain ⟨p, cap, rfl, hlc, hl47, hcm⟩ := hv.form
  clear hv hfit h
  go_enter Try.func27, Try.ntmps27
  go_wp2_with fail
  refine (rnew_any w 1048576 (by omega) (by omega)).mono ?_
  rintro e w1 ⟨rfl, hr, hb1⟩
  have hP : Hid (Ply S c 0 w w1 db w.heap.size D ⟨1048576, [], 0⟩) := Lib.hid ⟨pair_of HD.out hr hb1 (fun k hk => .inl hk) (fun k hk => .inr hk), Fr.of_new hb1 S, by omega, by simp, by omega, by simp⟩
  clear hr hb1
  go_wp2_with fail
  go_loopw [6] (fun i wr => ∃ (k : Nat) (E : Dsk), k ≤ xs.length ∧ i = .int .i64 (k : Int) ∧ Hid (Ply S c k w wr db w.heap.size (plays D (xs.take k)) E)) (fun i _ => xs.length - (intOf i).toNat)
  case atStart => exact ⟨0, _, by omega, rfl, hP⟩
  case round =>
    obtain ⟨k, E, hk, rfl, HG⟩ := hrel
    by_cases hlt : k < xs.length
    · obtain ⟨b, off, nv, bv, pv, rfl, hb, hS, hA, d0, d1, d2, d3, d4, d5⟩ := (HV.out.step HG.out.fr (T := More S w.heap.size) (fun j hj hm => hm.resolve_right (by omega))).at_ (List.getElem?_eq_getElem hlt)
      have hx := HFit.out xs[k] (List.getElem_mem hlt)
      have HSn := Lib.hid (plays_snoc D xs k _ (List.getElem?_eq_getElem hlt))
      generalize xs[k] = x at *
      have hq2 := hA.bytes.form
      have hq3 := hA.picks.form
      rw [bs_length] at hq2
      rw [List.length_map] at hq3
      obtain ⟨q1, c1, rfl, _⟩ := hA.names.formS
      obtain ⟨q2, c2, rfl, _⟩ := hq2
      obtain ⟨q3, c3, rfl, _⟩ := hq3
      have h1 := HG.out.lenD
      have h2 := HG.out.lenE
      have h3 := HG.out.bornD
      have h4 := HG.out.bornE
      have HC := Lib.hid (step_any wr _ _ _ _ E HG.out.pair _ _ _ x hA hx (by omega) (by omega) (by omega) (by omega))
      clear hA hx
      unfold actV at HC
      go_wp2_with fail
      refine HC.out.mono ?_
      rintro e w4 ⟨rfl, hp4, hf4⟩
      have HG4 := HG.out.next hp4 hf4
      rw [← HSn.out] at HG4
      have HG4 := Lib.hid HG4
      clear hp4 hf4 HC
      go_wp2_with fail
      go_roundw
      case rel => exact ⟨k + 1, _, by omega, by go_num, HG4⟩
      case measure => simp [intOf]; omega
    · go_wp2_with fail
      go_end0
      have h1 := HG.out.pair.one
      have h2 := HG.out.lenD
      rw [List.take_of_length_le (by omega)] at h1 h2
      exact ⟨rfl, h1, HG.out.fr, by omega⟩

end Go.Proofs.Ytlekffhacmdnnaa
