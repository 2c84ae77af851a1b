import Derived.Test.YtagehnclkneolaaGreatDoorGTb
import Derived.Lib.SlBytesConst

/-
  The walk over glacierlaw7.known.
-/
namespace Go.Proofs.YtagehnclkneolaaGreatDoor
open Go.RowKit

def kE : Ent := ⟨[107], 3, false, [118]⟩
theorem kE_right : rightE [kE] = true := by decide
theorem kE_sh : ShL [kE] := by
  refine ⟨fun e he => ?_, by decide⟩
  rw [List.mem_singleton.1 he]
  decide
theorem nil_sh : ShL [] := by
  refine ⟨fun e he => ?_, by decide⟩
  cases he
theorem kE_refN : refN 10 [kE] = 0 := by
  unfold refN
  rw [if_neg (by omega), if_neg (by rw [kE_right]; simp), if_neg (by decide)]
theorem nil_refN : refN 10 [] = 0 := by
  unfold refN
  rw [if_neg (by omega), if_neg (by simp [rightE]), if_neg (by simp)]
theorem kE_laid : LaidC [kE] := by
  refine ⟨by simp, ?_, fun e he => by rw [List.mem_singleton.1 he]; decide⟩
  have h := pay_room [kE] (fun e he => kE_sh.e he)
  have h2 : wgt [kE] ≤ 100 := by decide
  omega
theorem kE_cut : ∀ c ∈ cutE 10 [] [kE], LaidC c := by
  intro c hc
  have : cutE 10 [] [kE] = [[kE]] := by
    rw [cutE_cut (.inr rfl)]
    simp [cutE]
  rw [this, List.mem_singleton] at hc
  rw [hc]
  exact kE_laid
theorem nil_open : opnP (tblB 10 []) = .inr ([], []) := by
  have h := opnP_back (block := 10) (es := []) nil_sh rfl (fun c hc => by simp [cutE] at hc)
  simpa [cutE, bkOf] using h
theorem kE_open : opnP (tblB 10 [kE]) = .inr ([kE], bkOf 0 (cutE 10 [] [kE])) := opnP_back kE_sh kE_right kE_cut
theorem frame_len (l : List UInt8) : (frame l).length = (num l.length).length + 4 + l.length := by
  simp only [frame, List.length_append, four_length]
  omega
theorem nil_len : (tblB 10 []).length = 46 := by
  have h1 : (filB []).length = 8 := by unfold filB; rw [filF_len, List.length_replicate]; rfl
  have h2 : cutE 10 [] [] = [] := rfl
  unfold tblB endB
  simp only [h2, tabB, idxB, List.nil_append, List.length_append, frame_len, footB_len, h1, List.length_nil]
  rw [num_lo 0 (by omega), num_lo 8 (by omega)]
  rfl
theorem tbl_len {block : Nat} {es : List Ent} (hs : ShL es) (hc : ∀ c ∈ cutE block [] es, c ≠ []) : (tblB block es).length ≤ 4 * wgt es + filN es.length + 100 := by
  obtain ⟨cs, hcs⟩ : ∃ cs, cutE block [] es = cs := ⟨_, rfl⟩
  have hfl : cs.flatten = es := by rw [← hcs, cutE_flat]; rfl
  have hw := hs.2
  have htl := tab_room cs (by rw [← hcs]; exact hc) (by rw [hfl]; exact hs)
  have hil := idx_room cs 0 (by rw [← hcs]; exact hc) (by rw [hfl]; exact hs) (by rw [hfl]; omega)
  rw [hfl] at htl hil
  have hff : (filB es).length ≤ filN es.length := by
    unfold filB
    rw [filF_len, List.length_replicate]
    have := cntK_le es es.length
    unfold filN
    omega
  have hfb := filB_len hs
  have h1 := (frame_length (idxB 0 cs) (by omega)).1
  have h2 := (frame_length (filB es) (by omega)).1
  unfold tblB endB
  rw [hcs]
  simp only [List.length_append, footB_len]
  omega
theorem kE_len : (tblB 10 [kE]).length ≤ 1000 := by
  have h := tbl_len (block := 10) kE_sh (fun c hc => (kE_cut c hc).ne)
  have h2 : 4 * wgt [kE] + filN [kE].length + 100 ≤ 1000 := by decide
  omega
theorem kE_get : getE [kE] [107] 5 = some kE := by
  have h : plcE ⟨[107], 5, false, []⟩ [kE] = 0 := by decide
  unfold getE
  rw [h]
  rfl
theorem kE_not : getE [kE] [107] 2 = none := by
  have h : plcE ⟨[107], 2, false, []⟩ [kE] = 1 := by decide
  unfold getE
  rw [h]
  rfl
theorem kE_may : mayK (filB [kE]) [107] 4 = true := by
  have h : filB [kE] = addK (List.replicate (filN (cntK [kE] 1)) 0) [107] := rfl
  rw [h]
  exact addK_may _ _ (by rw [List.length_replicate]; have := filN_pos (cntK [kE] 1); omega)
theorem kE_srt : SrtE [kE] := (rightE_iff.1 kE_right).2

theorem kE_got (w : World) (base ub nb : Nat) (h : TblM w base ub [kE] nb) : Calls Tryz.prog 10 #[.pointer (some ⟨ub, 0, none⟩), .string ⟨#[107]⟩, .int .u64 5] w fun x w' => ∃ q c, x = .returned (.tuple #[.agg #[.string ⟨#[107]⟩, .int .u64 3, .bool false, .slice q 1 c], .bool true]) ∧
    By w' (fun k => w.heap.size ≤ k) (.slice q 1 c) [118] ∧ Below w.heap.size w w' := by
  have h1 := get_any w base ub nb [kE] [107] 5 h kE_sh kE_srt (by decide)
  rw [kE_get] at h1
  exact h1
theorem kE_none (w : World) (base ub nb : Nat) (h : TblM w base ub [kE] nb) : Calls Tryz.prog 10 #[.pointer (some ⟨ub, 0, none⟩), .string ⟨#[107]⟩, .int .u64 2] w fun x w' => ∃ q c, x = .returned (.tuple #[.agg #[.string ⟨#[]⟩, .int .u64 0, .bool false, .slice q 0 c], .bool false]) ∧ Below w.heap.size w w' := by
  have h1 := get_any w base ub nb [kE] [107] 2 h kE_sh kE_srt (by decide)
  rw [kE_not] at h1
  refine h1.mono ?_
  rintro x w' ⟨q, c, h2, _, h3⟩
  exact ⟨q, c, h2, h3⟩

set_option maxRecDepth 100000 in
set_option maxHeartbeats 2000000 in
theorem known7 (w : World) (ht : Tabs w) : Calls Tryz.prog 5 #[] w fun e w' => e = .returned (.bool true) ∧ Below w.heap.size w w' := by
  have HT := Lib.hid ht
  have HB0 := Lib.hid (build_any w (fun _ => True) none 0 [] 10 (En.nil _ _) nil_sh ht (by omega) (by omega))
  rw [nil_refN] at HB0
  clear ht
  have kc := fun (w : World) (C : Array Value) (n c : Nat) => Lib.run_convert_bytes_const (P := Tryz.prog) w 22 5 C n c Tryz.underlying22 Tryz.underlying5
  go_enter Tryz.func5, Tryz.ntmps5
  go_wp2_with fail
  refine HB0.out.mono ?_
  rintro x w1 ⟨⟨v1, rfl, hv1⟩, hb1⟩
  have hown1 : Own w1 w.heap.size v1 (tblB 10 []) := by
    rcases hv1 with h | h
    · exact h.2
    · exact absurd rfl h.1
  obtain ⟨q1, c1, rfl, _, _⟩ := hown1.shp
  have hln := nil_len
  have HO1 := Lib.hid (open_any w1 q1 c1 (tblB 10 []) w1.heap.size (hown1.rd (by omega)) (Nat.le_refl _) (HT.out.under hb1 HT.out.two) (by omega))
  have HB1 := Lib.hid hb1
  rw [hln] at HO1
  rw [hln]
  clear hv1 hb1 hown1 HB0 hln
  go_wp2_with fail
  refine HO1.out.mono ?_
  rintro x w2 ⟨hot, hb2⟩
  rcases hot with ⟨at_, e, g, hop, _⟩ | ⟨L, bks, tb, hop, rfl, hT⟩
  · rw [nil_open] at hop
    cases hop
  · rw [nil_open] at hop
    obtain ⟨rfl, rfl⟩ : [] = L ∧ [] = bks := by simpa using hop
    have HB2 := Lib.hid (HB1.out.trans (hb2.mono HB1.out.size))
    have HTa := Lib.hid hT
    have hbX : Below w2.heap.size w2 ((w2.alloc (.cells #[.int .u8 118] 5 (1, 2))).alloc (.cells #[.string ⟨#[107]⟩, .int .u64 3, .bool false, .slice (some ⟨w2.heap.size, 0, none⟩) 1 1] 37)) := ((Below.refl _ _).alloc (Nat.le_refl _) _).alloc (by simp) _
    have hent : En ((w2.alloc (.cells #[.int .u8 118] 5 (1, 2))).alloc (.cells #[.string ⟨#[107]⟩, .int .u64 3, .bool false, .slice (some ⟨w2.heap.size, 0, none⟩) 1 1] 37)) (fun _ => True) (.slice (some ⟨w2.heap.size + 1, 0, none⟩) 1 1) [kE] := by
      have h1 : By (w2.alloc (.cells #[.int .u8 118] 5 (1, 2))) (fun _ => True) (.slice (some ⟨w2.heap.size, 0, none⟩) 1 1) [118] := By.of_rd (Rd.newm w2 [118] 5 #[.int .u8 118] (1, 2) rfl (by simp)) (by simp) (fun _ _ => trivial)
      have h2 := Cl.new (w2.alloc (.cells #[.int .u8 118] 5 (1, 2))) (fun _ => True) 1 (cellsE [kE] [.slice (some ⟨w2.heap.size, 0, none⟩) 1 1]) #[.string ⟨#[107]⟩, .int .u64 3, .bool false, .slice (some ⟨w2.heap.size, 0, none⟩) 1 1] 37 rfl (by omega) trivial
      rw [show (w2.alloc (.cells #[.int .u8 118] 5 (1, 2))).heap.size = w2.heap.size + 1 from by simp] at h2
      refine ⟨[.slice (some ⟨w2.heap.size, 0, none⟩) 1 1], rfl, h2, fun k e u he hu => ?_⟩
      have hk : k = 0 := by have := (List.getElem?_eq_some_iff.1 he).1; simp at this; omega
      subst hk
      obtain rfl : kE = e := by simpa using he
      obtain rfl : Value.slice (some ⟨w2.heap.size, 0, none⟩) 1 1 = u := by simpa using hu
      exact h1.below (below_alloc _ _)
    have HBu := Lib.hid (build_any _ (fun _ => True) (some ⟨w2.heap.size + 1, 0, none⟩) 1 [kE] 10 hent kE_sh (HT.out.under (HB2.out.trans (hbX.mono HB2.out.size)) HT.out.two) (by omega) (by omega))
    rw [kE_refN] at HBu
    have HbX := Lib.hid hbX
    clear hop hb2 hT hbX hent HO1
    go_wp2_with fail
    refine HBu.out.mono ?_
    rintro x w3 ⟨⟨v3, rfl, hv3⟩, hb3⟩
    have hown3 : Own w3 0 v3 (tblB 10 [kE]) := by
      rcases hv3 with h | h
      · exact h.2.more (Nat.zero_le _)
      · exact absurd rfl h.1
    obtain ⟨q3, c3, rfl, _, _⟩ := hown3.shp
    have hB23 : Below w2.heap.size w2 w3 := HbX.out.trans (hb3.mono HbX.out.size)
    have hT3 : Tabs w3 := HT.out.under (HB2.out.trans (hB23.mono HB2.out.size)) HT.out.two
    have HO3 := Lib.hid (open_any w3 q3 c3 (tblB 10 [kE]) w3.heap.size (hown3.rd (by have := kE_len; omega)) (Nat.le_refl _) hT3 (by have := kE_len; omega))
    have HB3 := Lib.hid (HB2.out.trans (hB23.mono HB2.out.size))
    have HTa3 := Lib.hid (HTa.out.below hB23)
    generalize (tblB 10 [kE]).length = n3 at *
    clear hv3 hown3 hb3 HBu hB23 hT3
    go_wp2_with fail
    refine HO3.out.mono ?_
    rintro x w4 ⟨hot, hb4⟩
    rcases hot with ⟨at_, e, g, hop, _⟩ | ⟨L, bks, ub, hop, rfl, hU⟩
    · rw [kE_open] at hop
      cases hop
    · rw [kE_open] at hop
      obtain ⟨rfl, rfl⟩ : [kE] = L ∧ bkOf 0 (cutE 10 [] [kE]) = bks := by simpa using hop
      have HB4 := Lib.hid (HB3.out.trans (hb4.mono HB3.out.size))
      have HTa4 := Lib.hid (HTa3.out.below hb4)
      have HU4 := Lib.hid hU
      have HG5 := Lib.hid (kE_got w4 w3.heap.size ub _ hU)
      clear hop hb4 hU HO3
      go_wp2_with fail
      refine HG5.out.mono ?_
      rintro x w5 ⟨q5, c5, rfl, hby5, hb5⟩
      have HBy5 : Hid (By w5 (fun k => w4.heap.size ≤ k) (.slice q5 1 c5) [118]) := Lib.hid hby5
      have HB5 := Lib.hid (HB4.out.trans (hb5.mono HB4.out.size))
      have HTa5 := Lib.hid (HTa4.out.below hb5)
      have HU5 := Lib.hid (HU4.out.below hb5)
      clear hby5 hb5 HG5
      have hz5 := heap_alloc_new w5 (.cells #[.string ⟨#[]⟩, .int .u64 0, .bool false, .slice none 0 0] 37)
      obtain ⟨Y5, hY5⟩ : ∃ Y, w5.alloc (.cells #[.string ⟨#[]⟩, .int .u64 0, .bool false, .slice none 0 0] 37) = Y := ⟨_, rfl⟩
      have hbY5 : Below w5.heap.size w5 Y5 := by rw [← hY5]; exact below_alloc _ _
      rw [hY5] at hz5
      have f50 := frozen_of (i := 0) hz5
      have f51 := frozen_of (i := 1) hz5
      have f52 := frozen_of (i := 2) hz5
      have f53 := frozen_of (i := 3) hz5
      have u50 := cell_of (i := 0) hz5 rfl
      have u51 := cell_of (i := 1) hz5 rfl
      have u52 := cell_of (i := 2) hz5 rfl
      have u53 := cell_of (i := 3) hz5 rfl
      obtain ⟨X5, hX5⟩ : ∃ X, set4 Y5 w5.heap.size (.string ⟨#[107]⟩) (.int .u64 3) (.bool false) (.slice q5 1 c5) = X := ⟨_, rfl⟩
      have hbX5 : Below w5.heap.size w5 X5 := by rw [← hX5]; exact hbY5.trans ((set4_fr Y5 w5.heap.size _ _ _ _ (fun k => k = w5.heap.size) rfl).below hbY5.size (fun k hk e => by omega))
      have hXa5 : X5.heap[w5.heap.size]? = some (.cells #[.string ⟨#[107]⟩, .int .u64 3, .bool false, .slice q5 1 c5] 37 (0, 0)) := by rw [← hX5]; exact set4_heap hz5 _ _ _ _
      unfold set4 at hX5
      have HG6 := Lib.hid (kE_none X5 w3.heap.size ub _ (HU5.out.below hbX5))
      have HXa5 := Lib.hid hXa5
      have HbX5 := Lib.hid hbX5
      clear hbY5 hz5 hbX5 hXa5
      go_wp2_with fail
      refine HG6.out.mono ?_
      rintro x w6 ⟨q6, c6, rfl, hb6⟩
      have Hb6 := Lib.hid (HbX5.out.trans (hb6.mono HbX5.out.size))
      have hxa6 := (hb6.block _ (block_lt HXa5.out)).trans HXa5.out
      have HXa6 := Lib.hid hxa6
      clear hb6 HG6 hxa6
      have hz6 := heap_alloc_new w6 (.cells #[.string ⟨#[]⟩, .int .u64 0, .bool false, .slice none 0 0] 37)
      obtain ⟨Y6, hY6⟩ : ∃ Y, w6.alloc (.cells #[.string ⟨#[]⟩, .int .u64 0, .bool false, .slice none 0 0] 37) = Y := ⟨_, rfl⟩
      have hbY6 : Below w6.heap.size w6 Y6 := by rw [← hY6]; exact below_alloc _ _
      rw [hY6] at hz6
      have f60 := frozen_of (i := 0) hz6
      have f61 := frozen_of (i := 1) hz6
      have f62 := frozen_of (i := 2) hz6
      have f63 := frozen_of (i := 3) hz6
      have u60 := cell_of (i := 0) hz6 rfl
      have u61 := cell_of (i := 1) hz6 rfl
      have u62 := cell_of (i := 2) hz6 rfl
      have u63 := cell_of (i := 3) hz6 rfl
      obtain ⟨X6, hX6⟩ : ∃ X, set4 Y6 w6.heap.size (.string ⟨#[]⟩) (.int .u64 0) (.bool false) (.slice q6 0 c6) = X := ⟨_, rfl⟩
      have hbX6 : Below w6.heap.size w6 X6 := by rw [← hX6]; exact hbY6.trans ((set4_fr Y6 w6.heap.size _ _ _ _ (fun k => k = w6.heap.size) rfl).below hbY6.size (fun k hk e => by omega))
      have hXa6 : X6.heap[w6.heap.size]? = some (.cells #[.string ⟨#[]⟩, .int .u64 0, .bool false, .slice q6 0 c6] 37 (0, 0)) := by rw [← hX6]; exact set4_heap hz6 _ _ _ _
      unfold set4 at hX6
      have hb56 : Below w5.heap.size w5 X6 := Hb6.out.trans (hbX6.mono Hb6.out.size)
      have hx5 := (hbX6.block _ (block_lt HXa6.out)).trans HXa6.out
      have s3 := cell_of (i := 3) hx5 rfl
      have htx := txt_run ((HBy5.out.below hb56).rd)
      have hBX6 : Below w.heap.size w X6 := HB5.out.trans (hb56.mono HB5.out.size)
      have HLen := Lib.hid (len_any X6 w1.heap.size tb _ [] (HTa5.out.below hb56))
      have HBlk := Lib.hid (blocks_any X6 w1.heap.size tb _ [] (HTa5.out.below hb56))
      have HMay := Lib.hid (tmay_any X6 w3.heap.size ub _ [kE] [107] (HU5.out.below hb56) kE_sh (by decide) (HT.out.under hBX6 HT.out.two))
      rw [kE_may] at HMay
      have HBX6 := Lib.hid hBX6
      clear hbY6 hz6 hbX6 hXa6 hb56 hx5 hBX6 HXa6
      go_wp2_with fail
      refine HLen.out.mono ?_
      rintro x w7 ⟨rfl, hw7⟩
      subst hw7
      go_wp2_with fail
      refine HBlk.out.mono ?_
      rintro x w8 ⟨rfl, hw8⟩
      subst hw8
      go_wp2_with fail
      refine HMay.out.mono ?_
      rintro x w9 ⟨rfl, hb9⟩
      have HB9 := Lib.hid hb9
      clear hb9
      go_wp2_with fail
      go_ret
      exact ⟨rfl, HBX6.out.trans (HB9.out.mono HBX6.out.size)⟩
end Go.Proofs.YtagehnclkneolaaGreatDoor

/-
  The walk over glacierlaw7.SstBuilds.
-/
namespace Go.Proofs.YtagehnclkneolaaGreatDoor
open Go.RowKit

theorem wgt_bulk : ∀ l : List Ent, wgt l = 31 * l.length + bulkE l
  | [] => by simp [wgt, bulkE]
  | e :: r => by
    have e1 : bulkE (e :: r) = e.key.length + e.val.length + bulkE r := by simp [bulkE]
    have := wgt_bulk r
    rw [e1]
    simp only [wgt, List.length_cons]
    omega
theorem few_sh {es : List Ent} (h : fewE es 400 = true) (hf : ∀ x ∈ es, FitE x) : ShL es := by
  unfold fewE at h
  simp only [Bool.and_eq_true, decide_eq_true_eq] at h
  refine ⟨fun e he => (hf e he).seq, ?_⟩
  rw [wgt_bulk]
  omega

end Go.Proofs.YtagehnclkneolaaGreatDoor
