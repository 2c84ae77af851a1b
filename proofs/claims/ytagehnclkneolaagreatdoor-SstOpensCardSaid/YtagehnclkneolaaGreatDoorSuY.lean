/-
  The walk over glacierlaw7.Opened where the bytes are no table; glacierlaw7.SstOpens.
-/
import Derived.Test.YtagehnclkneolaaGreatDoorSuX
import Derived.Test.YtagehnclkneolaaGreatDoorSuS
import Derived.Test.YtagehnclkneolaaGreatDoorGTc
namespace Go.Proofs.YtagehnclkneolaaGreatDoor
open Go.RowKit

theorem opF_at : ∀ (f : Nat) (r : List UInt8) (at_ : Nat) (L : List Ent) (bks : List TBk) (a : Nat), opF f r at_ L bks = .inl a → a ≤ at_ + r.length
  | _, [], at_, L, bks, a, h => by
    cases ‹Nat› <;> (simp [opF] at h)
  | 0, x :: l, at_, L, bks, a, h => by
    simp only [opF, Sum.inl.injEq] at h
    omega
  | f + 1, x :: l, at_, L, bks, a, h => by
    simp only [opF] at h
    split at h
    · simp only [Sum.inl.injEq] at h
      omega
    · next n es hb =>
      have hn := blkP_some hb
      have := opF_at f _ _ _ _ _ h
      rw [List.length_drop] at this
      omega
theorem opF_sh : ∀ (f : Nat) (r : List UInt8) (at_ : Nat) (L : List Ent) (bks : List TBk) (L' : List Ent) (bks' : List TBk), opF f r at_ L bks = .inr (L', bks') → rightE L = true → (∀ e ∈ L, e.seq < 18446744073709551616) →
    rightE L' = true ∧ (∀ e ∈ L', e.seq < 18446744073709551616) ∧ wgt L' ≤ wgt L + 31 * r.length
  | f, [], at_, L, bks, L', bks', h, hr, hq => by
    obtain ⟨rfl, rfl⟩ : L = L' ∧ bks = bks' := by cases f <;> simpa [opF] using h
    exact ⟨hr, hq, by omega⟩
  | 0, x :: l, at_, L, bks, L', bks', h, _, _ => by simp [opF] at h
  | f + 1, x :: l, at_, L, bks, L', bks', h, hr, hq => by
    simp only [opF] at h
    split at h
    · cases h
    · next n es hb =>
      obtain ⟨h5, hn, hne, hrt, hwg, hsq⟩ := blkP_some hb
      obtain ⟨h1, h2, h3⟩ := opF_sh f _ _ _ _ _ _ h hrt (fun e he => (List.mem_append.1 he).elim (hq e) (hsq e))
      refine ⟨h1, h2, ?_⟩
      rw [wgt_append, List.length_drop] at h3
      omega
/-- What an opening's error tells. -/
theorem opnP_err {b : List UInt8} {at_ e : Nat} (h : opnP b = .inl (at_, e)) : ErrN e ∧ at_ ≤ b.length := by
  unfold opnP at h
  split at h
  · obtain ⟨rfl, rfl⟩ : 0 = at_ ∧ 11 = e := by simpa using h
    exact ⟨.inl rfl, by omega⟩
  · split at h
    · obtain ⟨rfl, rfl⟩ : b.length - 28 = at_ ∧ 13 = e := by simpa using h
      exact ⟨.inr (.inl rfl), by omega⟩
    · split at h
      · obtain ⟨rfl, rfl⟩ : b.length - 28 = at_ ∧ 14 = e := by simpa using h
        exact ⟨.inr (.inr rfl), by omega⟩
      · next h3 =>
        split at h
        · next a ha =>
          obtain ⟨rfl, rfl⟩ : a = at_ ∧ 14 = e := by simpa using h
          have h4 := opF_at _ _ _ _ _ _ ha
          rw [List.length_take] at h4
          exact ⟨.inr (.inr rfl), by omega⟩
        · split at h
          · obtain ⟨rfl, rfl⟩ : fI (ftOf b) = at_ ∧ 14 = e := by simpa using h
            exact ⟨.inr (.inr rfl), by omega⟩
          · split at h
            · obtain ⟨rfl, rfl⟩ : fF (ftOf b) = at_ ∧ 14 = e := by simpa using h
              exact ⟨.inr (.inr rfl), by omega⟩
            · split at h
              · obtain ⟨rfl, rfl⟩ : b.length - 28 = at_ ∧ 14 = e := by simpa using h
                exact ⟨.inr (.inr rfl), by omega⟩
              · cases h
/-- What is opened weighs little, and is right. -/
theorem opnP_sh {b : List UInt8} {L : List Ent} {bks : List TBk} (h : opnP b = .inr (L, bks)) (hb : b.length ≤ 1073741824) : ShL L ∧ SrtE L ∧ wgt L ≤ 31 * b.length := by
  unfold opnP at h
  split at h
  · cases h
  · split at h
    · cases h
    · split at h
      · cases h
      · split at h
        · cases h
        · next L' bks' ho =>
          split at h
          · cases h
          · split at h
            · cases h
            · split at h
              · cases h
              · obtain ⟨rfl, rfl⟩ : L' = L ∧ bks' = bks := by simpa using h
                obtain ⟨h1, h2, h3⟩ := opF_sh _ _ _ _ _ _ _ ho rfl (fun e he => by simp at he)
                rw [List.length_take] at h3
                simp only [wgt] at h3
                exact ⟨⟨h2, by omega⟩, (rightE_iff.1 h1).2, by omega⟩

/-- The variable that holds the type error. -/
def ETy (w : World) : Prop := w.cell? ⟨0, 0, none⟩ = some (.iface 149 (.agg #[.pointer (some ⟨7, 55, none⟩)]))
theorem ETy.below {w w' : World} (h : ETy w) (hb : Below w.heap.size w w') : ETy w' := by
  unfold ETy at h ⊢
  rw [hb.cell (block_lt_of_cell h)]
  exact h

set_option maxRecDepth 100000 in
set_option maxHeartbeats 2000000 in
theorem opened_no (w : World) (q : Option Addr) (c : Nat) (b : List UInt8) (B : Nat) (h : Rd w B (.slice q b.length c) b) (hB : B ≤ w.heap.size) (ht : Tabs w) (hp : Pow w) (hE : ETy w) (hb40 : b.length ≤ 1073741824) (at_ e : Nat) (ho : opnP b = .inl (at_, e)) :
    Calls Tryz.prog 6 #[.slice q b.length c] w fun x w' => x = .returned (.tuple #[.pointer none, .pointer none, .bool true]) ∧ Below w.heap.size w w' := by
  have HC := Lib.hid (open_any w q c b B h hB ht hb40)
  have HR := Lib.hid h
  have HO := Lib.hid ho
  have HP := Lib.hid hp
  have HEt := Lib.hid hE
  obtain ⟨hen, hat⟩ := opnP_err ho
  have HEn := Lib.hid hen
  have hat2 : at_ ≤ 1073741824 := by omega
  clear h ht ho hp hE hen
  go_enter Tryz.func6, Tryz.ntmps6
  go_wp2_with fail
  refine HC.out.mono ?_
  rintro x w1 ⟨hot, hb1⟩
  rcases hot with ⟨at2, e2, g, hop, rfl, hg⟩ | ⟨L2, bks2, tb, hop, _⟩
  · rw [HO.out] at hop
    obtain ⟨rfl, rfl⟩ : at_ = at2 ∧ e = e2 := by simpa using hop
    have HB1 := Lib.hid hb1
    have HG := Lib.hid hg
    have HC2 := Lib.hid (refOpen_any w1 q c b B (HR.out.under hb1 hB) (Nat.le_trans hB hb1.size) hb40)
    clear hop hb1 hg HC
    go_wp2_with fail
    refine HC2.out.mono ?_
    rintro x w2 ⟨hot, hb2⟩
    rcases hot with ⟨at3, e3, hop, rfl⟩ | ⟨L2, bks2, rb, hop, _⟩
    · rw [HO.out] at hop
      obtain ⟨rfl, rfl⟩ : at_ = at3 ∧ e = e3 := by simpa using hop
      have HB2 := Lib.hid (HB1.out.trans (hb2.mono HB1.out.size))
      have hg2 := (hb2.block _ (block_lt HG.out)).trans HG.out
      have HG2 := Lib.hid hg2
      have d0 : ((e : Int) == 0) = false := by rcases HEn.out with h | h | h <;> subst h <;> decide
      have hz := heap_alloc_new w2 (.cells #[.pointer none] 61)
      obtain ⟨X, hX⟩ : ∃ X, w2.alloc (.cells #[.pointer none] 61) = X := ⟨_, rfl⟩
      have hbX : Below w2.heap.size w2 X := by rw [← hX]; exact below_alloc _ _
      rw [hX] at hz
      have hgX := (hbX.block _ (block_lt hg2)).trans hg2
      have HAs := Lib.hid (as_hit ⟨g, 0, none⟩ ⟨w2.heap.size, 0, none⟩ (.pointer none) X (HEt.out.below (HB2.out.trans (hbX.mono HB2.out.size))) (cell_of (i := 0) hz rfl) (frozen_of (i := 0) hz))
      have HXz := Lib.hid hz
      have HXg := Lib.hid hgX
      have HBX := Lib.hid (HB2.out.trans (hbX.mono HB2.out.size))
      clear hop hb2 hg2 hz hbX hgX HC2
      go_wp2_with fail
      refine HAs.out.mono ?_
      rintro x w3 ⟨rfl, hw3⟩
      have hgl : g < w2.heap.size := block_lt HG2.out
      have H3 : Hid (w3.heap[w2.heap.size]? = some (.cells #[.pointer (some ⟨g, 0, none⟩)] 61 (0, 0)) ∧ w3.heap[g]? = some (.cells #[.int .i64 (at_ : Int), .int .i64 (e : Int)] 66 (0, 0)) ∧ Below w.heap.size w w3) := Lib.hid (by
        obtain ⟨Y, hY⟩ : ∃ Y, (((X.alloc (.cells #[.pointer (some ⟨w2.heap.size, 0, none⟩)] 63)).alloc (.cells #[.pointer (some ⟨7, 63, none⟩), .pointer (some ⟨X.heap.size, 0, none⟩), .int .u64 150] 106)).alloc (.cells #[.pointer (some ⟨7, 63, none⟩), .pointer (some ⟨X.heap.size, 0, none⟩), .int .u64 150] 106)).alloc (.cells #[.pointer (some ⟨g, 0, none⟩)] 61) = Y := ⟨_, rfl⟩
        have hbY : Below X.heap.size X Y := by rw [← hY]; exact ((((Below.refl _ _).alloc (Nat.le_refl _) _).alloc (by simp) _).alloc (by simp; omega) _).alloc (by simp; omega) _
        rw [hY] at hw3
        have h1 := (hbY.block _ (block_lt HXz.out)).trans HXz.out
        have h2 := (hbY.block _ (block_lt HXg.out)).trans HXg.out
        have h3 := HBX.out.trans (hbY.mono HBX.out.size)
        rw [hw3]
        refine ⟨by simpa using setCell_same (off := 0) h1 (.pointer (some ⟨g, 0, none⟩)), (setCell_other (fun e => by omega) _).trans h2, ?_⟩
        exact h3.trans ((Fr.setCell (fun k => k = w2.heap.size) Y (p := ⟨w2.heap.size, 0, none⟩) rfl _).below h3.size (fun k hk e => by have := HB2.out.size; omega)))
      clear hw3
      have c0 := cell_of (i := 0) H3.out.1 rfl
      have c1 := cell_of (i := 0) H3.out.2.1 rfl
      have c2 := cell_of (i := 1) H3.out.2.1 rfl
      have HIs := Lib.hid (is_wrong g (e : Int) w3 c2)
      have HWe := Lib.hid (werr_any w3 g at_ e H3.out.2.1 HEn.out hat2 (HP.out.below H3.out.2.2))
      have HEe := Lib.hid (fun (V : World) => errno_any e V HEn.out)
      have HDc := Lib.hid (fun (V : World) => decimal_any at_ V hat2)
      have hl := errTxt_len e
      have hd := dec_len at_
      have p1 := str_add (errTxt e) [32, 97, 116, 32] (by simp; omega)
      have p2 := str_add (errTxt e ++ [32, 97, 116, 32]) (Lib.decDigits at_) (by simp; omega)
      have e1 : ((at_ : Int) == (at_ : Int)) = true := by simp
      have e2 : ((e : Int) == (e : Int)) = true := by simp
      generalize errTxt e ++ [32, 97, 116, 32] ++ Lib.decDigits at_ = R at *
      generalize errTxt e ++ [32, 97, 116, 32] = R1 at *
      generalize errTxt e = E at *
      generalize Lib.decDigits at_ = D at *
      clear HAs
      go_wp2_with fail
      refine HIs.out.mono ?_
      rintro x w4 ⟨rfl, rfl⟩
      go_wp2_with fail
      refine HWe.out.mono ?_
      rintro x w4 ⟨rfl, hb4⟩
      have HB4 := Lib.hid (H3.out.2.2.trans (hb4.mono H3.out.2.2.size))
      clear hb4 c0 c1 c2
      go_wp2_with fail
      refine (HEe.out _).mono ?_
      rintro x w5 ⟨rfl, hb5⟩
      have HB5 := Lib.hid (HB4.out.trans (hb5.mono HB4.out.size))
      clear hb5
      go_wp2_with fail
      refine (HDc.out _).mono ?_
      rintro x w6 ⟨rfl, hb6⟩
      have HB6 := Lib.hid (HB5.out.trans (hb6.mono HB5.out.size))
      clear hb6
      go_wp2_with fail
      go_ret3
      exact ⟨rfl, HB6.out⟩
    · rw [HO.out] at hop
      cases hop
  · rw [HO.out] at hop
    cases hop

set_option maxRecDepth 100000 in
set_option maxHeartbeats 2000000 in
theorem opens_any (w : World) (v : Value) (b : List UInt8) (h : Rd w w.heap.size v b) (ht : Tabs w) (hp : Pow w) (hE : ETy w) :
    Calls Tryz.prog 3 #[v] w fun x w' => x = .returned (.bool true) ∧ Below w.heap.size w w' := by
  have HK := Lib.hid (known7 w ht)
  obtain ⟨q, c, rfl⟩ := bytes_val h
  have hl47 := h.len
  have HR := Lib.hid h
  have HT := Lib.hid ht
  have HP := Lib.hid hp
  have HEt := Lib.hid hE
  clear h ht hp hE
  by_cases hbig : 65536 < b.length
  · have d1 : decide ((65536 : Int) < (b.length : Int)) = true := decide_eq_true (by omega)
    have d1n : decide (65536 < b.length) = true := decide_eq_true hbig
    clear hbig
    go_enter Tryz.func3, Tryz.ntmps3
    go_wp2_with fail
    refine HK.out.mono ?_
    rintro x w1 ⟨rfl, hb1⟩
    have HB1 := Lib.hid hb1
    clear hb1
    go_wp2_with fail
    go_ret
    exact ⟨rfl, HB1.out⟩
  · have d1 : decide ((65536 : Int) < (b.length : Int)) = false := decide_eq_false (by omega)
    have d1n : decide (65536 < b.length) = false := decide_eq_false hbig
    have hb40 : b.length ≤ 65536 := by omega
    obtain ⟨o, ho⟩ : ∃ o, opnP b = o := ⟨_, rfl⟩
    have HO := Lib.hid ho
    clear hbig ho
    go_enter Tryz.func3, Tryz.ntmps3
    go_wp2_with fail
    refine HK.out.mono ?_
    rintro x w1 ⟨rfl, hb1⟩
    have HB1 := Lib.hid hb1
    have HR1 := Lib.hid (HR.out.under hb1 (Nat.le_refl _))
    have hs1 := hb1.size
    clear hb1 HK
    go_wp2_with fail
    rcases o with ⟨at_, e⟩ | ⟨L, bks⟩
    · refine (opened_no w1 q c b w.heap.size HR1.out hs1 (HT.out.under HB1.out HT.out.two) (HP.out.below HB1.out) (HEt.out.below HB1.out) (by omega) at_ e HO.out).mono ?_
      rintro x w2 ⟨rfl, hb2⟩
      have HB2 := Lib.hid (HB1.out.trans (hb2.mono HB1.out.size))
      clear hb2
      go_wp2_with fail
      go_ret
      exact ⟨rfl, HB2.out⟩
    · obtain ⟨hsh, hsr, hwg⟩ := opnP_sh HO.out (by omega)
      have hll : L.length ≤ 1048576 := by have := wgt_len L; omega
      refine (opened_yes w1 q c b w.heap.size HR1.out hs1 (HT.out.under HB1.out HT.out.two) (by omega) L bks HO.out).mono ?_
      rintro x w2 ⟨tb, rb, base, base', rfl, hT, hR, hb2⟩
      have HLk := Lib.hid (looks_any w2 base base' tb rb L bks hT hR hsh hsr hll)
      have HB2 := Lib.hid (HB1.out.trans (hb2.mono HB1.out.size))
      clear hb2 hT hR hsh hsr hwg hll
      go_wp2_with fail
      refine HLk.out.mono ?_
      rintro x w3 ⟨rfl, hb3⟩
      have HB3 := Lib.hid (HB2.out.trans (hb3.mono HB2.out.size))
      clear hb3
      go_wp2_with fail
      go_ret
      exact ⟨rfl, HB3.out⟩
end Go.Proofs.YtagehnclkneolaaGreatDoor
