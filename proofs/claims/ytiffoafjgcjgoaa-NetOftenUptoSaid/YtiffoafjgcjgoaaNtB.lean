/-
  The walks over Send, Tick, Drop of nothing: the net's calls that lay messages in.
-/
import Derived.Test.YtiffoafjgcjgoaaNtA
namespace Go.Proofs.Ytiffoafjgcjgoaa
open Go.RowKit

/-- The text of a row of bytes. -/
theorem str_run {w : World} {B : Nat} {v : Value} {l : List UInt8} (h : Rd w B v l) : (convert 34 9 v).run Try.prog w = .ok (.string ⟨l.toArray⟩) w := by
  obtain ⟨p, cap, rfl, hlc, _, hat⟩ := h
  rcases Nat.eq_zero_or_pos l.length with h0 | h0
  · have hn : l = [] := List.eq_nil_of_length_eq_zero h0
    subst hn
    rw [run_convert_bytes_string w _ _ 5 p _ _ Try.underlying34 Try.underlying5 Try.underlying9]
    cases p <;> simp [Conv.bytesToString] <;> rfl
  · obtain ⟨b, off, e, hb, hc⟩ := hat h0
    subst e
    refine run_convert_bytes_back w _ _ 5 ⟨b, off, none⟩ cap l Try.underlying34 Try.underlying5 Try.underlying9 fun j hj => ?_
    rw [Addr.add_mid, hc j hj]
    simp [hj]

/-- The shape of a slice of one-cell values. -/
theorem RdV.form {w : World} {S : Nat → Prop} {v : Value} {xs : List Value} (h : RdV w S v xs) : ∃ p cap, v = .slice p xs.length cap ∧ xs.length ≤ cap ∧ xs.length ≤ 140737488355328 ∧ cap ≤ 9223372036854775807 := by
  obtain ⟨p, cap, e, h1, h2, h3, _⟩ := h
  exact ⟨p, cap, e, h1, h2, h3⟩
theorem RdV.at_ {w : World} {S : Nat → Prop} {p : Option Addr} {n cap : Nat} {xs : List Value} (h : RdV w S (.slice p n cap) xs) {k : Nat} {x : Value} (hk : xs[k]? = some x) :
    ∃ b off, p = some ⟨b, off, none⟩ ∧ b < w.heap.size ∧ ¬ S b ∧ w.cell? ⟨b, off + k, none⟩ = some x := by
  obtain ⟨p', cap', e, _, _, _, _, h5⟩ := h
  injection e with e1 e2 e3
  subst e1
  exact h5 k x hk

theorem lay1_no {N : PNet} {f t : Int} {s : List UInt8} (h : may N f t = false) : lay1 N f t s = N ∧ laid1 N f t = 0 := by
  unfold lay1 laid1
  simp [h]
theorem laid1_yes {N : PNet} {f t : Int} (h : may N f t = true) : laid1 N f t = 1 := by
  unfold laid1
  simp [h]

set_option maxRecDepth 100000 in
set_option maxHeartbeats 2000000 in
theorem send_any (w : World) (S : Nat → Prop) (nb : Nat) (N : PNet) (h : Nt w S nb N) (f : Int) (mv : Value) (m : List UInt8) (hm : Rd w w.heap.size mv m) (hml : m.length ≤ 1048576) (tv : Value) (ts : List Int) (hts : RdV w S tv (ts.map (Value.int .i64))) :
    Calls Try.prog 12 #[.pointer (some ⟨nb, 0, none⟩), .int .i64 f, mv, tv] w fun e w' => e = .returned (.int .i64 (nsent f m N ts : Int)) ∧ Nt w' (More S w.heap.size) nb (sends f m N ts) ∧ Fr S w w' := by
  have hcv := str_run hm
  obtain ⟨p, cap, rfl, hlc, hl47, hcm, _⟩ := hm.form
  have HT := Lib.hid hts
  have hform := hts.form
  rw [List.length_map] at hform
  obtain ⟨q, qc, rfl, hq1, hq2, hq3⟩ := hform
  have HN := Lib.hid h
  have hlen : (ts.map (Value.int .i64)).length = ts.length := List.length_map _
  clear h hm hts
  go_enter Try.func12, Try.ntmps12
  go_wp2_with fail
  go_loopw [10, 18] (fun n i wr => ∃ k : Nat, k ≤ ts.length ∧ i = .int .i64 (k : Int) ∧ n = .int .i64 (nsent f m N (ts.take k) : Int) ∧ Hid (Nt wr (More S w.heap.size) nb (sends f m N (ts.take k)) ∧ Fr S w wr)) (fun _ i _ => ts.length - (intOf i).toNat)
  case atStart => exact ⟨0, by omega, rfl, rfl, Lib.hid ⟨HN.out.weak _, Fr.refl _ _⟩⟩
  case round =>
    obtain ⟨k, hk, rfl, rfl, HR⟩ := hrel
    by_cases hlt : k < ts.length
    · obtain ⟨b, off, rfl, hb, hS, hc⟩ := (HT.out.same HR.out.2).at_ (k := k) (x := .int .i64 ts[k]) (by simp [hlt])
      have ht1 : ts.take (k + 1) = ts.take k ++ [ts[k]] := take_snoc ts k _ (List.getElem?_eq_getElem hlt)
      have HS1 : Hid (sends f m N (ts.take (k + 1)) = lay1 (sends f m N (ts.take k)) f ts[k] m) := Lib.hid (by rw [ht1, sends_snoc])
      have HS2 : Hid (nsent f m N (ts.take (k + 1)) = nsent f m N (ts.take k) + laid1 (sends f m N (ts.take k)) f ts[k]) := Lib.hid (by rw [ht1, nsent_snoc])
      have hnle : nsent f m N (ts.take k) ≤ k := Nat.le_trans (nsent_le _ _ _ _) (by rw [List.length_take]; omega)
      obtain ⟨hnt, hfr⟩ := HR.out
      obtain ⟨gb, ro, bv, hat⟩ := hnt
      generalize sends f m N (ts.take k) = N1 at *
      generalize nsent f m N (ts.take k) = C at *
      generalize ts[k] = t at *
      have HA := Lib.hid hat
      have HF := Lib.hid hfr
      have c0 := hat.c0
      clear ht1 hat hfr HR
      rcases hl : isLink N1 f t with _ | _
      · have HL := Lib.hid (link_no wr _ nb N1 gb ro bv HA.out f t hl)
        obtain ⟨e1, e2⟩ := lay1_no (s := m) (show may N1 f t = false by simp [may, hl])
        have HE1 := Lib.hid e1
        have HE2 := Lib.hid e2
        clear hl e1 e2
        go_wp2_with fail
        refine HL.out.mono ?_
        rintro e w' ⟨rfl, rfl⟩
        go_wp2_with fail
        go_roundw
        case rel => exact ⟨k + 1, by omega, by go_num, by rw [HS2.out, HE2.out]; rfl, Lib.hid ⟨by rw [HS1.out, HE1.out]; exact ⟨gb, ro, bv, HA.out⟩, HF.out⟩⟩
        case measure => simp [intOf]; omega
      · obtain ⟨hf, ht⟩ := isLink_iff.1 hl
        obtain ⟨f', rfl⟩ : ∃ f' : Nat, f = (f' : Int) := ⟨f.toNat, by omega⟩
        obtain ⟨t', rfl⟩ : ∃ t' : Nat, t = (t' : Int) := ⟨t.toNat, by omega⟩
        have hf' : f' < N1.nodes := by omega
        have ht' : t' < N1.nodes := by omega
        have HL := Lib.hid (link_yes wr _ nb N1 gb ro bv HA.out f' t' hf' ht')
        by_cases hc : cnt N1.L f' t' < N1.bound
        · have HY := Lib.hid (blay_yes wr _ nb N1 gb ro bv HA.out f' t' hf' ht' m hml hc)
          have HE2 := Lib.hid (laid1_yes (show may N1 f' t' = true by rw [may, hl]; simpa using hc))
          clear hl hf ht hf' ht' hc
          go_wp2_with fail
          refine HL.out.mono ?_
          rintro e w' ⟨rfl, rfl⟩
          go_wp2_with fail
          refine HY.out.mono ?_
          rintro e w2 ⟨rfl, ⟨bv2, h2⟩, hf2⟩
          have HA2 := Lib.hid h2
          have HF2 := Lib.hid hf2
          clear h2 hf2
          go_wp2_with fail
          go_roundw
          case rel => exact ⟨k + 1, by omega, by go_num, by rw [HS2.out, HE2.out]; go_num, Lib.hid ⟨by rw [HS1.out]; exact Nt.mono ⟨gb, ro, bv2, HA2.out⟩ (fun j _ hj => hj.elim id fun hle => .inr (Nat.le_trans HF.out.size hle)), HF.out.trans HF2.out⟩⟩
          case measure => simp [intOf]; omega
        · have HY := Lib.hid (blay_no wr _ nb N1 gb ro bv HA.out f' t' hf' ht' (.string ⟨m.toArray⟩) hc)
          obtain ⟨e1, e2⟩ := lay1_no (s := m) (show may N1 f' t' = false by rw [may, hl]; simpa using hc)
          have HE1 := Lib.hid e1
          have HE2 := Lib.hid e2
          clear hl hf ht hf' ht' hc e1 e2
          go_wp2_with fail
          refine HL.out.mono ?_
          rintro e w' ⟨rfl, rfl⟩
          go_wp2_with fail
          refine HY.out.mono ?_
          rintro e w2 ⟨rfl, rfl⟩
          go_wp2_with fail
          go_roundw
          case rel => exact ⟨k + 1, by omega, by go_num, by rw [HS2.out, HE2.out]; rfl, Lib.hid ⟨by rw [HS1.out, HE1.out]; exact ⟨gb, ro, bv, HA.out⟩, HF.out⟩⟩
          case measure => simp [intOf]; omega
    · have hke : k = ts.length := by omega
      subst hke
      rw [List.take_length] at HR
      go_wp2_with fail
      go_ret
      rw [List.take_length]
      exact ⟨rfl, HR.out.1, HR.out.2⟩

theorem NtAt.tick {w : World} {S : Nat → Prop} {nb : Nat} {N : PNet} {gb : Nat} {ro : Nat → Nat} {bv : Nat → Nat → Value} (h : NtAt w S nb N gb ro bv) :
    NtAt (w.setCell ⟨nb, 1, none⟩ (.int .i64 ((N.now + 1 : Nat) : Int))) S nb (tick N) gb ro bv := by
  have hk : ∀ {k : Nat} {c : Array Value} {ty : TypeId} {z : Nat × Nat}, w.heap[k]? = some (.cells c ty z) → ty ≠ 50 → (w.setCell ⟨nb, 1, none⟩ (.int .i64 ((N.now + 1 : Nat) : Int))).heap[k]? = some (.cells c ty z) :=
    fun hk hne => (setCell_other (kind_ne hk h.blk hne) _).trans hk
  refine ⟨setCell_same h.blk _, ?_, fun f hf => ?_, fun f t hf ht => ?_, h.rapart, h.bapart, h.wf.tick, h.inN, h.inG, h.inR⟩
  · obtain ⟨cur, hc, h1⟩ := h.grid
    exact ⟨cur, hk hc (by decide), h1⟩
  · obtain ⟨cur, hc, h1⟩ := h.rows f hf
    exact ⟨cur, hk hc (by decide), h1⟩
  · have hb := h.bags f t hf ht
    refine hb.keep (fun k e => ?_) (fun _ _ hs => hs)
    obtain ⟨c2, hc2, _⟩ := hb.heap e
    exact setCell_other (kind_ne hc2 h.blk (by decide)) _
set_option maxHeartbeats 400000 in
theorem tick_any (w : World) (S : Nat → Prop) (nb : Nat) (N : PNet) (h : Nt w S nb N) (hn : N.now < 4611686018427387904) :
    Calls Try.prog 23 #[.pointer (some ⟨nb, 0, none⟩)] w fun e w' => e = .returned (.int .i64 ((N.now + 1 : Nat) : Int)) ∧ Nt w' S nb (tick N) ∧ Fr S w w' := by
  obtain ⟨gb, ro, bv, h⟩ := h
  have c1 := h.c1
  have z1 := h.fz 1
  have HH := Lib.hid h
  have HF := Lib.hid (Fr.setCell S w (p := ⟨nb, 1, none⟩) h.inN (.int .i64 ((N.now + 1 : Nat) : Int)))
  have HT := Lib.hid h.tick
  have e : IntKind.i64.wrap ((N.now : Int) + 1) = ((N.now + 1 : Nat) : Int) := by rw [IntWalk.i64_in _ (by omega)]; omega
  clear h
  go_enter Try.func23, Try.ntmps23
  go_wp2
  go_ret
  exact ⟨rfl, ⟨gb, ro, bv, HT.out⟩, HF.out⟩
end Go.Proofs.Ytiffoafjgcjgoaa
