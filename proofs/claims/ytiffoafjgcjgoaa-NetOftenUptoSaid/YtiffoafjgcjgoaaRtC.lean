/-
  The walks over the reference's Send, Double, Deliver, Clear.
-/
import Derived.Test.YtiffoafjgcjgoaaRtB
namespace Go.Proofs.Ytiffoafjgcjgoaa
open Go.RowKit

theorem rlay_any (w : World) (S : Nat → Prop) (rb : Nat) (N : PNet) (h : Rt w S rb N) (f t : Int) (u : Value) (s : List UInt8) (hu : Rd w w.heap.size u s) (hs : s.length ≤ 1048576) :
    Calls Try.prog 32 #[.pointer (some ⟨rb, 0, none⟩), .agg #[.int .i64 f, .int .i64 t, u]] w fun e w' => e = .returned (.bool (may N f t)) ∧ Rt w' (More S w.heap.size) rb (lay1 N f t s) ∧ Fr S w w' := by
  rcases hm : may N f t with _ | _
  · refine (rlay_no w S rb N h f t u hm).mono ?_
    rintro e w' ⟨rfl, hb⟩
    rw [(lay1_no (s := s) hm).1]
    exact ⟨rfl, (h.after hb).weak _, Fr.of_new hb S⟩
  · obtain ⟨f', t', rfl, rfl, hf, ht, hc⟩ := yes_may hm
    refine (rlay_yes w S rb N h f' t' hf ht hc u s hu hs).mono ?_
    rintro e w' ⟨rfl, h1, h2⟩
    unfold lay1
    rw [if_pos hm]
    exact ⟨rfl, h1, h2⟩

set_option maxRecDepth 100000 in
set_option maxHeartbeats 2000000 in
theorem rsend_any (w : World) (S : Nat → Prop) (rb : Nat) (N : PNet) (h : Rt w S rb N) (f : Int) (mv : Value) (m : List UInt8) (hm : RdV w S mv (bs m)) (hml : m.length ≤ 1048576) (tv : Value) (ts : List Int) (hts : RdV w S tv (ts.map (Value.int .i64))) :
    Calls Try.prog 17 #[.pointer (some ⟨rb, 0, none⟩), .int .i64 f, mv, tv] w fun e w' => e = .returned (.int .i64 (nsent f m N ts : Int)) ∧ Rt w' (More S w.heap.size) rb (sends f m N ts) ∧ Fr S w w' := by
  have hmf := hm.form
  rw [bs_length] at hmf
  obtain ⟨p, cap, rfl, _, _, _⟩ := hmf
  have HM := Lib.hid hm
  have HT := Lib.hid hts
  have hform := hts.form
  rw [List.length_map] at hform
  obtain ⟨q, qc, rfl, hq1, hq2, hq3⟩ := hform
  have HN := Lib.hid h
  clear h hm hts
  go_enter Try.func17, Try.ntmps17
  go_wp2_with fail
  go_loopw [9, 10] (fun n i wr => ∃ k : Nat, k ≤ ts.length ∧ i = .int .i64 (k : Int) ∧ n = .int .i64 (nsent f m N (ts.take k) : Int) ∧ Hid (Rt wr (More S w.heap.size) rb (sends f m N (ts.take k)) ∧ Fr S w wr)) (fun _ i _ => ts.length - (intOf i).toNat)
  case atStart => exact ⟨0, by omega, rfl, rfl, Lib.hid ⟨HN.out.weak _, Fr.refl _ _⟩⟩
  case round =>
    obtain ⟨k, hk, rfl, rfl, HR⟩ := hrel
    by_cases hlt : k < ts.length
    · obtain ⟨b, off, rfl, hb, hS, hc⟩ := (HT.out.same HR.out.2).at_ (k := k) (x := .int .i64 ts[k]) (by simp [hlt])
      have ht1 : ts.take (k + 1) = ts.take k ++ [ts[k]] := take_snoc ts k _ (List.getElem?_eq_getElem hlt)
      have HS1 : Hid (sends f m N (ts.take (k + 1)) = lay1 (sends f m N (ts.take k)) f ts[k] m) := Lib.hid (by rw [ht1, sends_snoc])
      have HS2 : Hid (nsent f m N (ts.take (k + 1)) = nsent f m N (ts.take k) + laid1 (sends f m N (ts.take k)) f ts[k]) := Lib.hid (by rw [ht1, nsent_snoc])
      have hnle : nsent f m N (ts.take k) ≤ k := Nat.le_trans (nsent_le _ _ _ _) (by rw [List.length_take]; omega)
      have HL := Lib.hid (rlay_any wr _ rb _ HR.out.1 f ts[k] _ m (HM.out.same HR.out.2).rd hml)
      have HF := Lib.hid HR.out.2
      generalize sends f m N (ts.take k) = N1 at *
      generalize nsent f m N (ts.take k) = C at *
      generalize ts[k] = t at *
      clear ht1 HR
      rcases hl : may N1 f t with _ | _
      · have HE : Hid (laid1 N1 f t = 0) := Lib.hid (by unfold laid1; rw [if_neg (by simp [hl])])
        rw [hl] at HL
        clear hl
        go_wp2_with fail
        refine HL.out.mono ?_
        rintro e w2 ⟨rfl, h2, hf2⟩
        have H2 := Lib.hid h2
        have HF2 := Lib.hid hf2
        clear h2 hf2
        go_wp2_with fail
        go_roundw
        case rel => exact ⟨k + 1, by omega, by go_num, by rw [HS2.out, HE.out]; rfl, Lib.hid ⟨by rw [HS1.out]; exact H2.out.mono (fun j _ hj => hj.elim id fun hle => .inr (Nat.le_trans HF.out.size hle)), HF.out.trans HF2.out⟩⟩
        case measure => simp [intOf]; omega
      · have HE := Lib.hid (laid1_yes hl)
        rw [hl] at HL
        clear hl
        go_wp2_with fail
        refine HL.out.mono ?_
        rintro e w2 ⟨rfl, h2, hf2⟩
        have H2 := Lib.hid h2
        have HF2 := Lib.hid hf2
        clear h2 hf2
        go_wp2_with fail
        go_roundw
        case rel => exact ⟨k + 1, by omega, by go_num, by rw [HS2.out, HE.out]; go_num, Lib.hid ⟨by rw [HS1.out]; exact H2.out.mono (fun j _ hj => hj.elim id fun hle => .inr (Nat.le_trans HF.out.size hle)), HF.out.trans HF2.out⟩⟩
        case measure => simp [intOf]; omega
    · have hke : k = ts.length := by omega
      subst hke
      rw [List.take_length] at HR
      go_wp2_with fail
      go_ret
      rw [List.take_length]
      exact ⟨rfl, HR.out.1, HR.out.2⟩

set_option maxRecDepth 100000 in
set_option maxHeartbeats 2000000 in
theorem rdouble_any (w : World) (S : Nat → Prop) (rb : Nat) (N : PNet) (h : Rt w S rb N) (f t p : Int) (hp : -9223372036854775808 ≤ p ∧ p ≤ 9223372036854775807) :
    Calls Try.prog 20 #[.pointer (some ⟨rb, 0, none⟩), .int .i64 f, .int .i64 t, .int .i64 p] w fun e w' => e = .returned (.bool (dbld N f t)) ∧ Rt w' (More S w.heap.size) rb (dbl N f t p) ∧ Fr S w w' := by
  have HH := Lib.hid h
  rcases has_cases N f t with ⟨hl, hh⟩ | ⟨f', t', rfl, rfl, hf, ht, hz, hh⟩ | ⟨f', t', rfl, rfl, hf, ht, hz, hh⟩
  · have HM := Lib.hid (rmeant_none w S rb N h f t p (cI_none h.wf hl))
    obtain ⟨e1, e2⟩ := dbl_no hh p
    rw [e1, e2]
    clear h hl hh e1 e2
    go_enter Try.func20, Try.ntmps20
    go_wp2_with fail
    refine HM.out.mono ?_
    rintro e w1 ⟨rfl, rfl⟩
    go_wp2_with fail
    go_ret
    exact ⟨rfl, HH.out.weak _, Fr.refl _ _⟩
  · have HM := Lib.hid (rmeant_none w S rb N h f' t' p (by rw [cI_nat]; exact hz))
    obtain ⟨e1, e2⟩ := dbl_no hh p
    rw [e1, e2]
    clear h hz hh e1 e2
    go_enter Try.func20, Try.ntmps20
    go_wp2_with fail
    refine HM.out.mono ?_
    rintro e w1 ⟨rfl, rfl⟩
    go_wp2_with fail
    go_ret
    exact ⟨rfl, HH.out.weak _, Fr.refl _ _⟩
  · have HM := Lib.hid (rmeant_some w S rb N h f' t' p hp hz)
    have hta := pos_at _ _ _ _ _ (text_at hh p)
    have htl := h.wf.text hh p
    obtain ⟨e1, e2⟩ := dbl_yes hh p
    rw [e1, e2]
    have e3 : pos f' t' (pick p (cnt N.L f' t')) N.L = pos (f' : Int).toNat (t' : Int).toNat (kth N f' t' p) N.L := rfl
    rw [e3] at HM
    simp only [Int.toNat_natCast] at HM hta
    obtain ⟨k, hk⟩ : ∃ k, pos f' t' (kth N f' t' p) N.L = k := ⟨_, rfl⟩
    rw [hk] at HM hta
    generalize text N f' t' p = s at *
    obtain ⟨mv, us, h1⟩ := h
    have hlen := h1.wf.len
    have c3 := h1.c3
    obtain ⟨q, cap, rfl, hq1, hq2, hat⟩ := h1.form
    obtain ⟨g, u, rfl, d0, d1, d2, hu, hin⟩ := hat k _ hta
    have hkl := (List.getElem?_eq_some_iff.1 hta).1
    have HL := Lib.hid (rlay_any w S rb N HH.out f' t' u s hin.rd htl)
    obtain ⟨pu, cu, rfl, _, _⟩ := hin.1.shape
    generalize may N f' t' = r at *
    simp only at d0 d1 d2
    clear h1 hh hz e1 e2 e3 hk hat hu hin hta
    go_enter Try.func20, Try.ntmps20
    go_wp2_with fail
    refine HM.out.mono ?_
    rintro e w1 ⟨rfl, rfl⟩
    go_wp2_with fail
    refine HL.out.mono ?_
    rintro e w2 ⟨rfl, h2, hf2⟩
    have H2 := Lib.hid h2
    have HF2 := Lib.hid hf2
    clear h2 hf2
    go_wp2_with fail
    go_ret
    exact ⟨rfl, H2.out, HF2.out⟩
end Go.Proofs.Ytiffoafjgcjgoaa
