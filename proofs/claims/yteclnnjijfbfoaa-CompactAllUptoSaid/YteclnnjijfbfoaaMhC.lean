/-
  The walk over glacierref6.Merge.
-/
import Derived.Test.YteclnnjijfbfoaaMhB
namespace Go.Proofs.Yteclnnjijfbfoaa
open Go.RowKit

theorem SeenW.en {w wr : World} {F : Nat → Prop} {o : List Ent} {v : Value} (h : SeenW w F o v wr) (hn : o.length ≤ 1048576) : En wr (fun _ => True) v o := by
  obtain ⟨us, hus, hrow, hvals, hbw⟩ := h
  exact ⟨us, hus, Cl.of_own hrow (by omega) (fun _ _ => trivial) (cellsE_length _ _ hus), fun k e u h1 h2 => ((hvals k e u h1 h2).below hbw).mono fun _ _ _ => trivial⟩

set_option maxRecDepth 100000 in
set_option maxHeartbeats 8000000 in
theorem r6_merge (w : World) (F : Nat → Prop) (v : Value) (ls : List (List Ent)) (h : Els w F v ls) (htot : ls.flatten.length ≤ 1048576) :
    Calls Try.prog 9 #[v] w fun r w' => Below w.heap.size w w' ∧ (((∀ l ∈ ls, rightE l = true) ∧ ∃ u, r = .returned (.tuple #[u, .int .i64 0]) ∧ En w' (fun _ => True) u (mrgL ls)) ∨ ((∃ l ∈ ls, rightE l = false) ∧ r = .returned (.tuple #[.slice none 0 0, .int .i64 15]))) := by
  obtain ⟨p, cap, rfl, hlc, hl47, hcm, _⟩ := h.form
  have HL := Lib.hid h
  have HTot := Lib.hid htot
  clear h htot
  go_enter Try.func9, Try.ntmps9
  go_wp2_with fail
  go_loopg [5] ls.length (fun gg iv wr => ∃ (pre rest : List (List Ent)), ls = pre ++ rest ∧ gg = rest.length ∧ iv = .int .i64 (pre.length : Int) ∧ (∀ l ∈ pre, rightE l = true) ∧ Below w.heap.size w wr)
  case atStart => exact ⟨[], ls, rfl, rfl, rfl, (fun l hl => by cases hl), Below.refl _ _⟩
  case round =>
    obtain ⟨pre, rest, hls, rfl, rfl, hright, hbr⟩ := hrel
    have HR := Lib.hid (And.intro hright hbr)
    have hln := congrArg List.length hls
    rw [List.length_append] at hln
    rcases rest with _ | ⟨l, rest⟩
    · rw [List.append_nil] at hls
      subst hls
      clear hright hbr hln
      obtain ⟨wo, hwo⟩ : ∃ wo, wo = wr := ⟨_, rfl⟩
      subst hwo
      go_wp2_with fail
      go_loopg [4, 6] ls.length (fun gg ov iv wx => ∃ (pre rest : List (List Ent)), ls = pre ++ rest ∧ gg = rest.length ∧ iv = .int .i64 (pre.length : Int) ∧ En wx (fun _ => True) ov (mrgL pre) ∧ (mrgL pre).length ≤ pre.flatten.length ∧ Below w.heap.size w wx)
      case atStart => exact ⟨[], ls, rfl, rfl, rfl, En.nil _ _, by simp [mrgL], HR.out.2⟩
      case round =>
        obtain ⟨pre, rest, hls, rfl, rfl, hE, hml, hbx⟩ := hrel
        have hln := congrArg List.length hls
        rw [List.length_append] at hln
        obtain ⟨po, co, rfl, _, _, _, _⟩ := hE.form
        rcases rest with _ | ⟨l, rest⟩
        · rw [List.append_nil] at hls
          subst hls
          have HF := Lib.hid (And.intro hbx hE)
          clear hln hbx hE hml
          generalize hmm : mrgL ls = mm at *
          have HMm := Lib.hid hmm
          clear hmm
          go_wp2_with fail
          refine Go.bodyPost_ret (Go.results_tmp2 rfl _ _ _) rfl ?_
          exact ⟨HF.out.1, .inl ⟨HR.out.1, .slice po mm.length co, rfl, by rw [HMm.out]; exact HF.out.2⟩⟩
        · have hk : ls[pre.length]? = some l := by rw [hls]; simp
          obtain ⟨b, off, q, c, rfl, hb, hc, hEl⟩ := HL.out.at_ hk
          have c0 := (below_cells hbx b _ hb).trans hc
          have hlt : pre.length < ls.length := by simp only [List.length_cons] at hln; omega
          have hft : pre.flatten.length + l.length ≤ 1048576 := by
            have := HTot.out
            rw [hls, List.flatten_append, List.flatten_cons, List.length_append, List.length_append] at this
            omega
          have hsm : SrtE (mrgL pre) := (mrgL_is fun l' hl' => (rightE_iff.1 (HR.out.1 l' (by rw [hls]; simp [hl']))).2).srt
          have HTw := Lib.hid (r6_two wr (fun _ => True) _ _ (mrgL pre) l hE ((hEl.below hbx).mono fun _ _ _ => trivial) hsm (rightE_iff.1 (HR.out.1 l (List.mem_of_getElem? hk))).2 (by omega))
          have HLs := Lib.hid (And.intro hls (And.intro hml (And.intro hbx hft)))
          clear hln hk hc hEl hft hsm hls hbx hE
          generalize hmm : mrgL pre = mm at *
          go_wp2_with fail
          refine HTw.out.mono ?_
          rintro r w5 ⟨u5, rfl, hsw, htl⟩
          have hE5 := hsw.en (by have := HLs.out.2.2.2; have := HLs.out.2.1; omega)
          have hb5 : Below wr.heap.size wr w5 := by
            obtain ⟨_, _, _, _, h5⟩ := hsw
            exact h5
          obtain ⟨p5, c5, rfl, _, _, _, _⟩ := hE5.form
          have HN := Lib.hid (And.intro hE5 (And.intro htl (HLs.out.2.2.1.trans (hb5.mono HLs.out.2.2.1.size))))
          have HMm := Lib.hid hmm
          clear hsw htl hE5 hb5 hmm
          go_wp2_with fail
          go_roundg rest.length
          case measure => simp
          case rel => exact ⟨pre ++ [l], rest, HLs.out.1.trans (by simp), rfl, by simp, by rw [mrgL_snoc, HMm.out]; exact HN.out.1, by rw [mrgL_snoc, HMm.out]; have h1 := HN.out.2.1; have h2 := HLs.out.2.1; rw [List.flatten_append, List.length_append, List.flatten_cons, List.flatten_nil, List.append_nil]; omega, HN.out.2.2⟩
    · have hk : ls[pre.length]? = some l := by rw [hls]; simp
      obtain ⟨b, off, q, c, rfl, hb, hc, hE⟩ := HL.out.at_ hk
      have c0 := (below_cells hbr b _ hb).trans hc
      have HRt := Lib.hid (r6_right wr F _ l (hE.below hbr))
      have hmem : l ∈ ls := List.mem_of_getElem? hk
      have hlt : pre.length < ls.length := by simp only [List.length_cons] at hln; omega
      have HLs := Lib.hid hls
      clear hright hbr hc hE hk hb hln hls
      rcases hrt : rightE l with _ | _
      · rw [hrt] at HRt
        have HNo := Lib.hid (And.intro hmem hrt)
        clear hrt hmem
        go_wp2_with fail
        refine HRt.out.mono ?_
        rintro r w2 ⟨rfl, hb2⟩
        have HB2 := Lib.hid (HR.out.2.trans (hb2.mono HR.out.2.size))
        clear hb2
        go_wp2_with fail
        refine Go.bodyPost_ret (Go.results_tmp2 rfl _ _ _) rfl ?_
        exact ⟨HB2.out, .inr ⟨⟨l, HNo.out.1, HNo.out.2⟩, rfl⟩⟩
      · rw [hrt] at HRt
        have HYes := Lib.hid hrt
        clear hrt hmem
        go_wp2_with fail
        refine HRt.out.mono ?_
        rintro r w2 ⟨rfl, hb2⟩
        have HB2 := Lib.hid (HR.out.2.trans (hb2.mono HR.out.2.size))
        clear hb2
        go_wp2_with fail
        go_roundg rest.length
        case measure => simp
        case rel => exact ⟨pre ++ [l], rest, HLs.out.trans (by simp), rfl, by simp, fun x hx => (List.mem_append.1 hx).elim (HR.out.1 x) (fun e => by rw [List.mem_singleton.1 e]; exact HYes.out), HB2.out⟩
end Go.Proofs.Yteclnnjijfbfoaa
