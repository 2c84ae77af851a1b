/-
  The walk over glacierlaw6.few.
-/
import Derived.Test.YtaomneenflkpeaaMgZ
import Derived.Test.YtaomneenflkpeaaMgL
namespace Go.Proofs.Ytaomneenflkpeaa
open Go.RowKit

def fewL (ls : List (List Ent)) : Bool := decide (ls.length ≤ 30) && (ls.all (fun l => fewE l 1000) && decide (ls.flatten.length ≤ 3000))

set_option maxRecDepth 100000 in
set_option maxHeartbeats 4000000 in
theorem l6_few (w : World) (F : Nat → Prop) (v : Value) (ls : List (List Ent)) (h : Els w F v ls) (hfit : ∀ l ∈ ls, ∀ x ∈ l, FitE x) (hlen : ∀ l ∈ ls, l.length ≤ 1048576) :
    Calls Try.prog 20 #[v] w fun e w' => e = .returned (.bool (fewL ls)) ∧ ∃ n, w' = w.drewN n := by
  obtain ⟨p, cap, rfl, hlc, hl47, hcm, _⟩ := h.form
  have HL := Lib.hid h
  have HF := Lib.hid (And.intro hfit hlen)
  obtain ⟨r, hr⟩ : ∃ r, fewL ls = r := ⟨_, rfl⟩
  have HR := Lib.hid hr
  rw [hr]
  clear h hfit hlen hr
  go_enter Try.func20, Try.ntmps20
  by_cases h30 : ls.length ≤ 30
  · have q30 : decide ((30 : Int) < (ls.length : Int)) = false := decide_eq_false (by omega)
    go_wp2_with fail
    go_loopg [3, 4] ls.length (fun gg nv iv wr => ∃ (pre rest : List (List Ent)) (m : Nat), ls = pre ++ rest ∧ gg = rest.length ∧ nv = .int .i64 (pre.flatten.length : Int) ∧ iv = .int .i64 (pre.length : Int) ∧ (∀ l ∈ pre, fewE l 1000 = true) ∧ pre.flatten.length ≤ pre.length * 1000 ∧ wr = w.drewN m)
    case atStart => exact ⟨[], ls, 0, rfl, rfl, rfl, rfl, (fun l hl => by cases hl), by simp, rfl⟩
    case round =>
      obtain ⟨pre, rest, m, hls, rfl, rfl, rfl, hfw, hsum, rfl⟩ := hrel
      have HP := Lib.hid (And.intro hls hfw)
      have hln := congrArg List.length hls
      rw [List.length_append] at hln
      rcases rest with _ | ⟨l, rest⟩
      · rw [List.append_nil] at hls
        subst hls
        clear hln
        generalize hT : ls.flatten.length = T at *
        by_cases h3 : T ≤ 3000
        · have hrt : r = true := by rw [← HR.out]; simp only [fewL, hT, decide_eq_true h30, decide_eq_true h3, Bool.true_and, Bool.and_true]; exact List.all_eq_true.2 HP.out.2
          subst hrt
          clear hfw hT
          go_wp2_with fail
          go_ret
          exact ⟨by first | rfl | (simp; omega), _, rfl⟩
        · have hrt : r = false := by rw [← HR.out]; simp only [fewL, hT, decide_eq_false h3, Bool.and_false]
          subst hrt
          clear hfw hT
          go_wp2_with fail
          go_ret
          exact ⟨by first | rfl | (simp; omega), _, rfl⟩
      · have hk : ls[pre.length]? = some l := by rw [hls]; simp
        obtain ⟨b, off, q, c, rfl, hb, hc, hE⟩ := HL.out.at_ hk
        have hmem : l ∈ ls := List.mem_of_getElem? hk
        have hlt : pre.length < ls.length := by simp only [List.length_cons] at hln; omega
        have hll := HF.out.2 l hmem
        have HFw : Hid (∀ nq, Calls Try.prog 7 #[.slice q l.length c, .int .i64 1000] (w.drewN nq) fun e w' => e = .returned (.bool (fewE l 1000)) ∧ ∃ n, w' = (w.drewN nq).drewN n) := Lib.hid (fun nq => l5_few (w.drewN nq) F _ l (hE.below (below_drewN (Below.refl _ _) nq)) (HF.out.1 l hmem) hll 1000)
        have HM := Lib.hid hmem
        clear hls hln hk hE hmem hfw
        generalize hTT : pre.flatten.length = T at *
        have HT := Lib.hid hTT
        clear hTT
        rcases hfl : fewE l 1000 with _ | _
        · have hrt : r = false := by
            rw [← HR.out]
            have : ls.all (fun l => fewE l 1000) = false := by
              rcases e : ls.all (fun l => fewE l 1000) with _ | _
              · rfl
              · rw [List.all_eq_true.1 e l HM.out] at hfl; cases hfl
            simp only [fewL, this, Bool.false_and, Bool.and_false]
          subst hrt
          rw [hfl] at HFw
          clear hfl
          go_wp2_with fail
          refine (HFw.out _).mono ?_
          rintro r w2 ⟨rfl, n2, rfl⟩
          go_wp2_with fail
          go_ret
          exact ⟨rfl, _, rfl⟩
        · have h1000 := few_len hfl
          rw [hfl] at HFw
          have HY := Lib.hid hfl
          clear hfl
          go_wp2_with fail
          refine (HFw.out _).mono ?_
          rintro r w2 ⟨rfl, n2, rfl⟩
          go_wp2_with fail
          go_roundg rest.length
          case measure => simp
          case rel => exact ⟨pre ++ [l], rest, _, HP.out.1.trans (by simp), rfl, by rw [List.flatten_append, List.length_append, HT.out]; simp, by simp, fun x hx => (List.mem_append.1 hx).elim (HP.out.2 x) (fun e => by rw [List.mem_singleton.1 e]; exact HY.out), by rw [List.flatten_append, List.length_append, HT.out]; simp; omega, rfl⟩
  · have q30 : decide ((30 : Int) < (ls.length : Int)) = true := decide_eq_true (by omega)
    have hrt : r = false := by rw [← HR.out]; simp only [fewL, decide_eq_false h30, Bool.false_and]
    subst hrt
    go_wp2_with fail
    go_ret
    exact ⟨rfl, 0, rfl⟩
end Go.Proofs.Ytaomneenflkpeaa
