/-
  The walk over glacierlaw5.MemPlays, over whatever keeps the table's contracts. UNDER WAY.
-/
import Derived.Test.YtdmjkejadaienaaMemW
import Derived.Test.YtdmjkejadaienaaRPt
import Derived.Test.YtdmjkejadaienaaEnG
import Derived.Test.YtdmjkejadaienaaEnH
import Derived.Deep.RegionHeld3
namespace Go.Proofs.Ytdmjkejadaienaa
open Go.RowKit

theorem Tb.new (w : World) (bd : Nat) (hbd : bd ≤ w.heap.size) (v : Value) (draws : List Int) (t : TypeId) (h : Cl w (fun k => k < bd) v draws.length (ints draws)) (hd : ∀ d ∈ draws, -9223372036854775808 ≤ d ∧ d ≤ 9223372036854775807) (ht : t = 31) :
    Tb (w.alloc (.cells #[v, .slice none 0 0, .slice none 0 0, .int .i64 0] t)) (fun k => k = w.heap.size) bd w.heap.size ⟨draws, [], [], 0⟩ := by
  subst ht
  have hb := (Below.refl w.heap.size w).alloc (Nat.le_refl _) (.cells #[v, .slice none 0 0, .slice none 0 0, .int .i64 0] 31)
  exact ⟨v, .slice none 0 0, .slice none 0 0, [], heap_alloc_new w _, h.step (Fr.of_below hb) (fun k _ hk hle => by omega), World.ownsRow_nil _ _ _ _, rfl, (fun k e u h1 _ => by simp at h1), World.ownsRow_nil _ _ _ _, rfl, (fun k hk => by cases hk), (fun k hk => by cases hk), (fun k hk => by omega), ⟨rfl, (by simp), (by simp), (by simp [SrtE]), (by simp), hd⟩⟩

set_option maxRecDepth 100000 in
set_option maxHeartbeats 4000000 in
theorem plays_any {M : World → (Nat → Prop) → Nat → PTb → Prop} (H : MemW M) (HK : ∀ W, Calls Try.prog 14 #[] W fun r W' => r = .returned (.bool true) ∧ Below W.heap.size W W')
    (w : World) (v0 v1 : Value) (draws : List Int) (es : List Ent) (key : List UInt8) (h0 : Cl w (fun k => k < w.heap.size) v0 draws.length (ints draws)) (hd : ∀ d ∈ draws, -9223372036854775808 ≤ d ∧ d ≤ 9223372036854775807) (hdl : draws.length ≤ 1048576)
    (h1 : En w (fun k => k < w.heap.size) v1 es) (hf : ∀ x ∈ es, FitE x) (hl : es.length ≤ 1048576) (hkl : key.length ≤ 1048576) (up : Nat) (hup : up < 18446744073709551616) :
    Calls Try.prog 3 #[v0, v1, .string ⟨key.toArray⟩, .int .u64 (up : Int)] w fun r W' => r = .returned (.bool true) ∧ Below w.heap.size w W' := by
  obtain ⟨p0, c0, rfl, _, _, _, _⟩ := h0.form
  obtain ⟨p1, c1, rfl, hlc, hl47, hcm, _⟩ := h1.form
  have H0 := Lib.hid h0
  have H1 := Lib.hid h1
  have HF := Lib.hid hf
  have HD := Lib.hid hd
  have HKn := Lib.hid (HK w)
  clear h0 h1 hf hd HK
  obtain ⟨fw, hfw⟩ : ∃ fw, fewE es 1000 = fw := ⟨_, rfl⟩
  have HFw := Lib.hid hfw
  clear hfw
  go_enter Try.func3, Try.ntmps3
  go_wp2_with fail
  refine HKn.out.mono ?_
  rintro r w1 ⟨rfl, hb1⟩
  have hfew := l5_few w1 _ _ es (H1.out.below hb1) HF.out hl 1000
  rw [HFw.out] at hfew
  have HFew := Lib.hid hfew
  have HB1 := Lib.hid hb1
  clear hb1 hfew HKn
  go_wp2_with fail
  refine HFew.out.mono ?_
  rintro r w2' ⟨rfl, nq, rfl⟩
  obtain ⟨w2, hw2⟩ : ∃ w2, w1.drewN nq = w2 := ⟨_, rfl⟩
  have HB2 : Hid (Below w.heap.size w w2) := Lib.hid (by rw [← hw2]; exact below_drewN HB1.out _)
  rw [hw2]
  clear hw2 HFew HB1
  cases fw
  · go_wp2_with fail
    go_ret
    exact ⟨rfl, HB2.out⟩
  · by_cases hd1 : (10000 : Int) < (draws.length : Int)
    · have hq : decide ((10000 : Int) < (draws.length : Int)) = true := decide_eq_true hd1
      have hqn : decide (10000 < draws.length) = true := decide_eq_true (by omega)
      clear hd1
      go_wp2_with fail
      go_ret
      exact ⟨rfl, HB2.out⟩
    · have hq : decide ((10000 : Int) < (draws.length : Int)) = false := decide_eq_false hd1
      have hqn : decide (10000 < draws.length) = false := decide_eq_false (by omega)
      by_cases hk1 : (10000 : Int) < (key.length : Int)
      · have hq2 : decide ((10000 : Int) < (key.length : Int)) = true := decide_eq_true hk1
        have hqn2 : decide (10000 < key.length) = true := decide_eq_true (by omega)
        clear hd1 hk1
        go_wp2_with fail
        go_ret
        exact ⟨rfl, HB2.out⟩
      · have hq2 : decide ((10000 : Int) < (key.length : Int)) = false := decide_eq_false hk1
        have hqn2 : decide (10000 < key.length) = false := decide_eq_false (by omega)
        have HNew := Lib.hid (H.new w2 (fun k => k < w.heap.size) (.slice p0 draws.length c0) draws (H0.out.step (Fr.of_below HB2.out) (fun k _ hk hle => by omega)) hdl HD.out)
        have hes400 : es.length ≤ 1000 := by
          have := HFw.out
          unfold fewE at this
          simp only [Bool.and_eq_true, decide_eq_true_eq] at this
          omega
        clear hd1 hk1
        go_wp2_with fail
        refine HNew.out.mono ?_
        rintro r w3 ⟨ma, rfl, hm, hb3⟩
        obtain ⟨w4, hw4⟩ : ∃ w4, w3.alloc (.cells #[.slice p0 draws.length c0, .slice none 0 0, .slice none 0 0, .int .i64 0] 31) = w4 := ⟨_, rfl⟩
        have hb4 : Below w3.heap.size w3 w4 := by rw [← hw4]; exact (Below.refl _ _).alloc (Nat.le_refl _) _
        have hs4 : w4.heap.size = w3.heap.size + 1 := by rw [← hw4]; simp
        obtain ⟨tb, htb⟩ : ∃ tb, w3.heap.size = tb := ⟨_, rfl⟩
        have HT4 : Hid (Tb w4 (fun k => k = tb) w.heap.size tb ⟨draws, [], [], 0⟩) := Lib.hid (by
          rw [← hw4, ← htb]
          exact Tb.new w3 w.heap.size (by have := hb3.size; have := HB2.out.size; omega) _ draws _ (H0.out.step (Fr.of_below (HB2.out.trans (hb3.mono HB2.out.size))) (fun k _ hk hle => by omega)) HD.out rfl)
        have HM4 : Hid (M w4 (fun k => w.heap.size ≤ k ∧ k < tb) ma (tabP draws [])) := Lib.hid (H.after (H.mono hm fun k hk hh => ⟨Nat.le_trans HB2.out.size hh, by omega⟩) hb4)
        have HB4 : Hid (Below w.heap.size w w4) := Lib.hid (HB2.out.trans ((hb3.trans (hb4.mono hb3.size)).mono HB2.out.size))
        have HTb : Hid (w.heap.size ≤ tb) := Lib.hid (by have := hb3.size; have := HB2.out.size; omega)
        clear hm hb3 hb4 hs4 HNew HB2 hq hqn hq2 hqn2
        go_wp2_with fail
        go_loopw [11] (fun i wr => ∃ (k : Nat) (Sa Sb : Nat → Prop), k ≤ es.length ∧ i = .int .i64 (k : Int) ∧ M wr Sa ma (tabP draws (es.take k)) ∧ Tb wr Sb w.heap.size tb (tabP draws (es.take k)) ∧ (∀ j, j < wr.heap.size → Sa j → Sb j → False) ∧ (∀ j, Sa j → w.heap.size ≤ j) ∧ (∀ j, Sb j → w.heap.size ≤ j) ∧ Below w.heap.size w wr) (fun i _ => es.length - (intOf i).toNat)
        case atStart => exact ⟨0, _, _, by omega, rfl, HM4.out, HT4.out, fun j _ h1 h2 => by omega, fun j h => h.1, fun j h => by have := HTb.out; omega, HB4.out⟩
        case round =>
          obtain ⟨k, Sa, Sb, hk, rfl, hma, hmb, hdis, hla, hlb, hbr⟩ := hrel
          obtain ⟨wd, hwd⟩ : ∃ wd : World, wd = wr := ⟨_, rfl⟩
          subst hwd
          have HMa := Lib.hid hma
          have HMb := Lib.hid hmb
          have HDis := Lib.hid hdis
          have HLa := Lib.hid hla
          have HLb := Lib.hid hlb
          have HBr := Lib.hid hbr
          clear hma hmb hdis hla hlb hbr HM4 HT4 HB4
          by_cases hlt : k < es.length
          · have HTk : Hid (putT (tabP draws (es.take k)) (normE es[k]) = tabP draws (es.take (k + 1))) := Lib.hid (by rw [take_snoc es k _ (List.getElem?_eq_getElem hlt), tabP_snoc])
            have hl1' := tabP_len draws (es.take k)
            rw [List.length_take] at hl1'
            have hEr : En wd (fun k => k < w.heap.size) (.slice p1 es.length c1) es := H1.out.step (Fr.of_below HBr.out) (fun k _ hk hle => by omega)
            obtain ⟨b1, off1, q1, cc1, rfl, hb1, hbF, hV1, e0, e1, e2, e3⟩ := hEr.at_ (List.getElem?_eq_getElem hlt)
            have HPut := Lib.hid (H.put wd Sa _ ma _ HMa.out (by omega) (by omega) es[k] (HF.out _ (List.getElem_mem hlt)) q1 cc1 hV1)
            rw [HTk.out] at HPut
            have HFx := Lib.hid (HF.out _ (List.getElem_mem hlt))
            have HXat := Lib.hid (List.getElem?_eq_getElem hlt)
            generalize es[k] = x at *
            clear hV1 hEr hb1 hbF
            go_wp2_with fail
            refine HPut.out.mono ?_
            rintro r w6 ⟨rfl, hm6, hf6⟩
            have HMa6 := Lib.hid hm6
            have HB6 : Hid (Below w.heap.size w w6) := Lib.hid (HBr.out.trans (hf6.below HBr.out.size fun j hj hs => absurd (HLa.out j hs) (by omega)))
            have HMb6 : Hid (Tb w6 (fun j => Sb j ∧ j < wd.heap.size) w.heap.size tb (tabP draws (es.take k))) := Lib.hid (HMb.out.step hf6 (fun j hj hs hsa => HDis.out j hj hsa hs) (fun j hj hsa => by have := HLa.out j hsa; omega) (fun j hj hs => ⟨hs, hj⟩) (fun j hs => HLb.out j hs.1))
            have HSz := Lib.hid hf6.size
            clear hm6 hf6 HPut HMa HMb e0 e1 e2 e3
            have hE6 : En w6 (fun k => k < w.heap.size) (.slice (some ⟨b1, off1, none⟩) es.length c1) es := H1.out.step (Fr.of_below HB6.out) (fun k _ hk hle => by omega)
            obtain ⟨b2, off2, q2, cc2, hpq, hb2, hbF2, hV2, e0, e1, e2, e3⟩ := hE6.at_ HXat.out
            obtain ⟨rfl, rfl⟩ : b1 = b2 ∧ off1 = off2 := by simpa using hpq
            have HPut := Lib.hid (r5_put w6 _ _ w.heap.size tb _ HMb6.out (by omega) (by omega) x HFx.out q2 cc2 hV2)
            rw [HTk.out] at HPut
            clear hV2 HTk hpq hE6 hb2 hbF2
            go_wp2_with fail
            refine HPut.out.mono ?_
            rintro r w7 ⟨rfl, hm7, hf7⟩
            have HMb7 := Lib.hid hm7
            have HB7 : Hid (Below w.heap.size w w7) := Lib.hid (HB6.out.trans (hf7.below HB6.out.size fun j hj hs => absurd (HLb.out j hs.1) (by omega)))
            have HMa7 : Hid (M w7 (fun j => More Sa wd.heap.size j ∧ j < w6.heap.size) ma (tabP draws (es.take (k + 1)))) := Lib.hid (H.step HMa6.out hf7 (fun j hj hs hsb => hs.elim (fun h => HDis.out j hsb.2 h hsb.1) (fun h => absurd hsb.2 (by omega))) (fun j hj hs => ⟨hs, hj⟩))
            clear hm7 hf7 HPut HMa6 HMb6 e0 e1 e2 e3
            have hl2' := tabP_len draws (es.take (k + 1))
            rw [List.length_take] at hl2'
            have hTl : (tabP draws (es.take (k + 1))).L.length ≤ 1048576 := by omega
            obtain ⟨lv, hlv, hen⟩ := HMb7.out.en (by omega)
            obtain ⟨pl, cl, rfl, _, _, _, _⟩ := hen.form
            have HTr : Hid (∃ T, tabP draws (es.take (k + 1)) = T) := Lib.hid ⟨_, rfl⟩
            obtain ⟨T, hT⟩ := HTr.out
            have HTe := Lib.hid hT
            rw [hT] at HMa7 HMb7 hTl hlv
            have c1 : w7.cell? ⟨tb, 1, none⟩ = some (.slice pl T.L.length cl) := hlv
            have HHa : Hid (∀ V, Below w7.heap.size w7 V → Calls Try.prog 19 #[.pointer (some ⟨ma, 0, none⟩)] V fun r w' => r = .returned (.int .i64 (highE T.H)) ∧ Below w7.heap.size w7 w') := Lib.hid (fun V hV => (H.height V _ ma T (H.after HMa7.out hV) hTl).mono (by rintro r w' ⟨rfl, hb⟩; exact ⟨rfl, hV.trans (hb.mono hV.size)⟩))
            have HHb : Hid (∀ V, Below w7.heap.size w7 V → Calls Try.prog 20 #[.pointer (some ⟨tb, 0, none⟩)] V fun r w' => r = .returned (.int .i64 (highE T.H)) ∧ Below w7.heap.size w7 w') := Lib.hid (fun V hV => (r5_height V _ _ tb T (HMb7.out.after hV) hTl).mono (by rintro r w' ⟨rfl, rfl⟩; exact ⟨rfl, hV⟩))
            have HLa2 : Hid (∀ V, Below w7.heap.size w7 V → Calls Try.prog 21 #[.pointer (some ⟨ma, 0, none⟩)] V fun r w' => r = .returned (.int .i64 (T.L.length : Int)) ∧ Below w7.heap.size w7 w') := Lib.hid (fun V hV => (H.len V _ ma T (H.after HMa7.out hV) hTl).mono (by rintro r w' ⟨rfl, hb⟩; exact ⟨rfl, hV.trans (hb.mono hV.size)⟩))
            have HSa2 : Hid (∀ V, Below w7.heap.size w7 V → Calls Try.prog 22 #[.pointer (some ⟨ma, 0, none⟩)] V fun r w' => r = .returned (.int .i64 (sizeE T.L : Int)) ∧ Below w7.heap.size w7 w') := Lib.hid (fun V hV => (H.size V _ ma T (H.after HMa7.out hV) hTl).mono (by rintro r w' ⟨rfl, hb⟩; exact ⟨rfl, hV.trans (hb.mono hV.size)⟩))
            have HSb2 : Hid (∀ V, Below w7.heap.size w7 V → Calls Try.prog 23 #[.pointer (some ⟨tb, 0, none⟩)] V fun r w' => r = .returned (.int .i64 (sizeE T.L : Int)) ∧ Below w7.heap.size w7 w') := Lib.hid (fun V hV => (r5_size V _ _ tb T (HMb7.out.after hV) hTl).mono (by rintro r w' ⟨rfl, n, rfl⟩; exact ⟨rfl, below_drewN hV n⟩))
            have HC1 : Hid (∀ V, Below w7.heap.size w7 V → V.cell? ⟨tb, 1, none⟩ = some (.slice pl T.L.length cl)) := Lib.hid (fun V hV => (hV.cell (p := ⟨tb, 1, none⟩) (cell_lt c1)).trans c1)
            have HB0 : Hid (Below w7.heap.size w7 w7.drew) := Lib.hid (below_drew (Below.refl _ _))
            clear hen hlv hT HTr hl2' hTl
            generalize highE T.H = ht at *
            generalize sizeE T.L = sz at *
            generalize T.L.length = ln at *
            go_wp2_with fail
            go_region_held3 (fun w' => w'.cell? ⟨tb, 1, none⟩ = some (.slice pl ln cl))
              (first
                | exact HC1.out _ HB0.out
                | exact HC1.out _ HBn.out)
              (first
                | (go_at_call 19
                   refine (HHa.out _ (by first | exact HBn.out | exact HB0.out)).mono ?_
                   rintro r w8 ⟨rfl, hb8⟩
                   have HBn := Lib.hid hb8
                   clear hb8)
                | (go_at_call 20
                   refine (HHb.out _ (by first | exact HBn.out | exact HB0.out)).mono ?_
                   rintro r w8 ⟨rfl, hb8⟩
                   have HBn := Lib.hid hb8
                   clear hb8)
                | (go_at_call 21
                   refine (HLa2.out _ (by first | exact HBn.out | exact HB0.out)).mono ?_
                   rintro r w8 ⟨rfl, hb8⟩
                   have HBn := Lib.hid hb8
                   clear hb8)
                | (go_at_call 22
                   refine (HSa2.out _ (by first | exact HBn.out | exact HB0.out)).mono ?_
                   rintro r w8 ⟨rfl, hb8⟩
                   have HBn := Lib.hid hb8
                   clear hb8)
                | (go_at_call 23
                   refine (HSb2.out _ (by first | exact HBn.out | exact HB0.out)).mono ?_
                   rintro r w8 ⟨rfl, hb8⟩
                   have HBn := Lib.hid hb8
                   clear hb8))
            all_goals
              go_wp2_with fail
              go_roundw
              case rel =>
                refine ⟨k + 1, _, _, by omega, by go_num, HTe.out ▸ H.after HMa7.out HBn.out, HTe.out ▸ HMb7.out.after HBn.out, fun j hj h1 h2 => ?_, fun j h => h.1.elim (HLa.out j) (fun h => Nat.le_trans HBr.out.size h), fun j h => h.elim (fun h => HLb.out j h.1) (fun h => Nat.le_trans HB6.out.size h), HB7.out.trans (HBn.out.mono HB7.out.size)⟩
                rcases h2 with h2 | h2
                · exact h1.1.elim (fun h => HDis.out j h2.2 h h2.1) (fun h => absurd h2.2 (by omega))
                · exact absurd h1.2 (by omega)
              case measure => simp [intOf]; omega
          · have hk2 : k = es.length := by omega
            subst hk2
            rw [List.take_length] at HMa HMb
            obtain ⟨T, hT⟩ : ∃ T, tabP draws es = T := ⟨_, rfl⟩
            have hTl := tabP_len draws es
            rw [hT] at HMa HMb hTl
            have HTl : Hid (T.L.length ≤ 1048576) := Lib.hid (by omega)
            have HWf := Lib.hid (H.wf HMa.out)
            obtain ⟨lv, hlv, hen⟩ := HMb.out.en (by omega)
            obtain ⟨pl, cl, rfl, hl1, hl2, hl3, _⟩ := hen.form
            have HEn : Hid (En wd (fun k => k < wd.heap.size) (.slice pl T.L.length cl) T.L) := Lib.hid (hen.mono fun k hk _ => hk)
            have HLv := Lib.hid hlv
            clear hT hTl hlt hen hlv HD HDis HLa HLb hes400
            go_wp2_with fail
            go_loopw [12] (fun i wq => ∃ k : Nat, k ≤ es.length ∧ i = .int .i64 (k : Int) ∧ Below wd.heap.size wd wq) (fun i _ => es.length - (intOf i).toNat)
            case atStart => exact ⟨0, by omega, rfl, Below.refl _ _⟩
            case round =>
              obtain ⟨k, hk, rfl, hbq⟩ := hrel
              have HBq := Lib.hid hbq
              clear hbq
              obtain ⟨ww, hww⟩ : ∃ ww : World, ww = wr := ⟨_, rfl⟩
              subst hww
              by_cases hgo : k < es.length ∧ k < 100
              · obtain ⟨hlt, h100⟩ := hgo
                have q1 : decide ((k : Int) < 100) = true := decide_eq_true (by omega)
                have q1n : decide (k < 100) = true := decide_eq_true h100
                have hEr : En ww (fun k => k < w.heap.size) (.slice p1 es.length c1) es := H1.out.step (Fr.of_below (HBr.out.trans (HBq.out.mono HBr.out.size))) (fun k _ hk hle => by omega)
                obtain ⟨b1, off1, q9, cc9, rfl, hb1, hbF, hV1, e0, e1, e2, e3⟩ := hEr.at_ (List.getElem?_eq_getElem hlt)
                have hfx := HF.out _ (List.getElem_mem hlt)
                generalize es[k] = x at *
                have HE0 : Hid (∀ V, Below ww.heap.size ww V → V.cell? ⟨b1, off1 + k * 4, none⟩ = some (.string ⟨x.key.toArray⟩) ∧ V.cell? ⟨b1, off1 + k * 4 + 1, none⟩ = some (.int .u64 (x.seq : Int))) := Lib.hid (fun V hV => ⟨(below_cells hV b1 _ hb1).trans e0, (below_cells hV b1 _ hb1).trans e1⟩)
                clear hEr hV1 hb1 hbF e0 e1 e2 e3 h100
                have HB0 : Hid (Below ww.heap.size ww ww.drew) := Lib.hid (below_drew (Below.refl _ _))
                have HGet : Hid (∀ V, Below ww.heap.size ww V → Calls Try.prog 24 #[.pointer (some ⟨ma, 0, none⟩), .string ⟨x.key.toArray⟩, .int .u64 (x.seq : Int)] V fun r w' => ∃ q c, r = .returned (.tuple #[.agg #[.string ⟨(optE (newestE T.L x.key x.seq)).key.toArray⟩, .int .u64 ((optE (newestE T.L x.key x.seq)).seq : Int), .bool (optE (newestE T.L x.key x.seq)).gone, .slice q (optE (newestE T.L x.key x.seq)).val.length c], .bool (newestE T.L x.key x.seq).isSome]) ∧
                    OwnS (fun k => V.heap.size ≤ k) w' (.slice q (optE (newestE T.L x.key x.seq)).val.length c) (optE (newestE T.L x.key x.seq)).val ∧ Below V.heap.size V w') := Lib.hid (fun V hV => H.get V _ ma T (H.after HMa.out (HBq.out.trans (hV.mono HBq.out.size))) HTl.out x.key x.seq hfx.key hfx.seq)
                have HRn : Hid (∀ V, Below ww.heap.size ww V → Calls Try.prog 25 #[.slice pl T.L.length cl, .string ⟨x.key.toArray⟩, .int .u64 (x.seq : Int)] V fun e w' => ∃ q c, e = .returned (.tuple #[.agg #[.string ⟨(optE (newestE T.L x.key x.seq)).key.toArray⟩, .int .u64 ((optE (newestE T.L x.key x.seq)).seq : Int), .bool (optE (newestE T.L x.key x.seq)).gone, .slice q (optE (newestE T.L x.key x.seq)).val.length c], .bool (newestE T.L x.key x.seq).isSome]) ∧
                    By w' (fun k => k < wd.heap.size) (.slice q (optE (newestE T.L x.key x.seq)).val.length c) (optE (newestE T.L x.key x.seq)).val ∧ Below V.heap.size V w') := Lib.hid (fun V hV => r5_newest V _ _ T.L (HEn.out.below (HBq.out.trans (hV.mono HBq.out.size))) x.key x.seq)
                generalize newestE T.L x.key x.seq = N at *
                go_upto_region 19 with (fail)
                go_cut [13, 14] (fun p q wx => ∃ g qg cg, p = .pointer (some ⟨g, 0, none⟩) ∧ q = .bool N.isSome ∧ Hid (BoxE' wx g (optE N, (qg, cg)) ∧ OwnS (fun _ => True) wx (.slice qg (optE N).val.length cg) (optE N).val ∧ Below ww.heap.size ww wx))
                case first =>
                  have HBa : Hid (Below ww.heap.size ww (ww.drew.alloc (.cells #[.string ⟨#[]⟩, .int .u64 0, .bool false, .slice none 0 0] 35))) := Lib.hid (HB0.out.alloc HB0.out.size _)
                  have HZa : Hid ((ww.drew.alloc (.cells #[.string ⟨#[]⟩, .int .u64 0, .bool false, .slice none 0 0] 35)).heap[ww.heap.size]? = some (.cells #[.string ⟨#[]⟩, .int .u64 0, .bool false, .slice none 0 0] 35 (0, 0))) := Lib.hid (heap_alloc_new ww.drew _)
                  go_region_held3 (fun w' => w'.cell? ⟨b1, off1 + k * 4, none⟩ = some (.string ⟨x.key.toArray⟩) ∧ w'.cell? ⟨b1, off1 + k * 4 + 1, none⟩ = some (.int .u64 (x.seq : Int)))
                    ((refine HE0.out _ ?_
                      repeat (first
                      | exact HBn.out
                      | exact HB0.out
                      | exact HBa.out
                      | (refine Below.setCell ?_ (by first | exact HBn.out.size | exact HB0.out.size | (have := HBn.out.size; simp; omega)) _)
                      | (refine Below.alloc ?_ (by first | exact HBn.out.size | exact HB0.out.size | (have := HBn.out.size; simp; omega)) _))))
                    (first
                      | (go_at_call 24
                         refine (HGet.out _ HB0.out).mono ?_
                         rintro r w8 ⟨qg, cg, rfl, hog, hb8⟩
                         have HBn := Lib.hid (HB0.out.trans hb8)
                         have HOg := Lib.hid hog
                         clear hb8 hog)
                      | (go_at_call 24
                         refine (HGet.out _ HBa.out).mono ?_
                         rintro r w8 ⟨qg, cg, rfl, hog, hb8⟩
                         have hz := (hb8.block _ (by simp)).trans HZa.out
                         have z0 := frozen_of (i := 0) hz
                         have z1 := frozen_of (i := 1) hz
                         have z2 := frozen_of (i := 2) hz
                         have z3 := frozen_of (i := 3) hz
                         have y0 := cell_of (i := 0) hz rfl
                         have y1 := cell_of (i := 1) hz rfl
                         have y2 := cell_of (i := 2) hz rfl
                         have y3 := cell_of (i := 3) hz rfl
                         have HBn := Lib.hid (HBa.out.trans (hb8.mono HBa.out.size))
                         have HOg := Lib.hid hog
                         have HZ := Lib.hid hz
                         clear hb8 hog hz))
                  · go_wp2_with fail
                    go_meet
                    obtain ⟨k1, k2⟩ := box_new (e := optE N) (q := qg) (c := cg) HBn.out 35 rfl
                    exact ⟨_, qg, cg, rfl, rfl, Lib.hid ⟨k1, own_new HOg.out _, k2⟩⟩
                  · go_wp2_with fail
                    go_meet
                    obtain ⟨k1, k2⟩ := box_set (e := optE N) (q := qg) (c := cg) HBn.out HZ.out (Nat.le_refl _)
                    exact ⟨_, qg, cg, rfl, rfl, Lib.hid ⟨k1, own_set HOg.out HZ.out, k2⟩⟩
                case rest =>
                  obtain ⟨g1, qg, cg, rfl, rfl, hid1⟩ := hcut
                  obtain ⟨w1x, hw1x⟩ : ∃ w1x : World, w1x = wc := ⟨_, rfl⟩
                  subst hw1x
                  have HG1 := hid1
                  clear hid1
                  have HLv1 : Hid (∀ V, Below w1x.heap.size w1x V → V.cell? ⟨tb, 1, none⟩ = some (.slice pl T.L.length cl)) := Lib.hid (fun V hV => by
                    have h1 := HBq.out.trans (HG1.out.2.2.mono HBq.out.size)
                    exact (hV.cell (p := ⟨tb, 1, none⟩) (Nat.lt_of_lt_of_le (cell_lt HLv.out) h1.size)).trans ((h1.cell (p := ⟨tb, 1, none⟩) (cell_lt HLv.out)).trans HLv.out))
                  have HE1 : Hid (∀ V, Below w1x.heap.size w1x V → V.cell? ⟨b1, off1 + k * 4, none⟩ = some (.string ⟨x.key.toArray⟩) ∧ V.cell? ⟨b1, off1 + k * 4 + 1, none⟩ = some (.int .u64 (x.seq : Int))) := Lib.hid (fun V hV => HE0.out V (HG1.out.2.2.trans (hV.mono HG1.out.2.2.size)))
                  have HRn1 : Hid (∀ V, Below w1x.heap.size w1x V → Calls Try.prog 25 #[.slice pl T.L.length cl, .string ⟨x.key.toArray⟩, .int .u64 (x.seq : Int)] V fun e w' => ∃ q c, e = .returned (.tuple #[.agg #[.string ⟨(optE N).key.toArray⟩, .int .u64 ((optE N).seq : Int), .bool (optE N).gone, .slice q (optE N).val.length c], .bool N.isSome]) ∧
                    By w' (fun k => k < wd.heap.size) (.slice q (optE N).val.length c) (optE N).val ∧ Below V.heap.size V w') := Lib.hid (fun V hV => HRn.out V (HG1.out.2.2.trans (hV.mono HG1.out.2.2.size)))
                  have HB1x : Hid (Below w1x.heap.size w1x w1x.drew) := Lib.hid (below_drew (Below.refl _ _))
                  have HBa : Hid (Below w1x.heap.size w1x (w1x.drew.alloc (.cells #[.string ⟨#[]⟩, .int .u64 0, .bool false, .slice none 0 0] 35))) := Lib.hid (HB1x.out.alloc HB1x.out.size _)
                  have HZa : Hid ((w1x.drew.alloc (.cells #[.string ⟨#[]⟩, .int .u64 0, .bool false, .slice none 0 0] 35)).heap[w1x.heap.size]? = some (.cells #[.string ⟨#[]⟩, .int .u64 0, .bool false, .slice none 0 0] 35 (0, 0))) := Lib.hid (heap_alloc_new w1x.drew _)
                  have HLt : Hid (wd.heap.size ≤ w1x.heap.size) := Lib.hid (Nat.le_trans HBq.out.size HG1.out.2.2.size)
                  clear HGet HRn HE0 HB0
                  go_upto_region 20 with (fail)
                  go_cut [15, 16] (fun p q wx => ∃ g qb cb, p = .pointer (some ⟨g, 0, none⟩) ∧ q = .bool N.isSome ∧ Hid (BoxE' wx g (optE N, (qb, cb)) ∧ By wx (fun k => k < wd.heap.size) (.slice qb (optE N).val.length cb) (optE N).val ∧ Below w1x.heap.size w1x wx))
                  case first =>
                    go_region_held3 (fun w' => w'.cell? ⟨tb, 1, none⟩ = some (.slice pl T.L.length cl) ∧ w'.cell? ⟨b1, off1 + k * 4, none⟩ = some (.string ⟨x.key.toArray⟩) ∧ w'.cell? ⟨b1, off1 + k * 4 + 1, none⟩ = some (.int .u64 (x.seq : Int)))
                      ((refine And.intro (HLv1.out _ ?_) (HE1.out _ ?_)
                        all_goals repeat (first
                          | exact HBn.out
                          | exact HB1x.out
                          | exact HBa.out
                          | (refine Below.setCell ?_ (by first | exact HBn.out.size | exact HB1x.out.size | (have := HBn.out.size; simp; omega)) _)
                          | (refine Below.alloc ?_ (by first | exact HBn.out.size | exact HB1x.out.size | (have := HBn.out.size; simp; omega)) _))))
                      (first
                        | (go_at_call 25
                           refine (HRn1.out _ HB1x.out).mono ?_
                           rintro r w8 ⟨qb, cb, rfl, hog, hb8⟩
                           have HBn := Lib.hid (HB1x.out.trans hb8)
                           have HOg := Lib.hid hog
                           clear hb8 hog)
                        | (go_at_call 25
                           refine (HRn1.out _ HBa.out).mono ?_
                           rintro r w8 ⟨qb, cb, rfl, hog, hb8⟩
                           have hz := (hb8.block _ (by simp)).trans HZa.out
                           have z0 := frozen_of (i := 0) hz
                           have z1 := frozen_of (i := 1) hz
                           have z2 := frozen_of (i := 2) hz
                           have z3 := frozen_of (i := 3) hz
                           have y0 := cell_of (i := 0) hz rfl
                           have y1 := cell_of (i := 1) hz rfl
                           have y2 := cell_of (i := 2) hz rfl
                           have y3 := cell_of (i := 3) hz rfl
                           have HBn := Lib.hid (HBa.out.trans (hb8.mono HBa.out.size))
                           have HOg := Lib.hid hog
                           have HZ := Lib.hid hz
                           clear hb8 hog hz))
                    · go_wp2_with fail
                      go_meet
                      obtain ⟨k1, k2⟩ := box_new (e := optE N) (q := qb) (c := cb) HBn.out 35 rfl
                      exact ⟨_, qb, cb, rfl, rfl, Lib.hid ⟨k1, HOg.out.below ((Below.refl _ _).alloc (Nat.le_refl _) _), k2⟩⟩
                    · go_wp2_with fail
                      go_meet
                      obtain ⟨k1, k2⟩ := box_set (e := optE N) (q := qb) (c := cb) HBn.out HZ.out (Nat.le_refl _)
                      exact ⟨_, qb, cb, rfl, rfl, Lib.hid ⟨k1, by_set HOg.out (fun k hk e => by have := HLt.out; omega), k2⟩⟩
                  case rest =>
                    obtain ⟨g2, qb, cb, rfl, rfl, hid1⟩ := hcut
                    obtain ⟨w2x, hw2x⟩ : ∃ w2x : World, w2x = wc := ⟨_, rfl⟩
                    subst hw2x
                    have HG2 := hid1
                    have hbx1 := (HG2.out.2.2.block _ (block_lt HG1.out.1)).trans HG1.out.1
                    have m0 := cell_of (i := 0) hbx1 rfl
                    have m1 := cell_of (i := 1) hbx1 rfl
                    have m2 := cell_of (i := 2) hbx1 rfl
                    have m3 := cell_of (i := 3) hbx1 rfl
                    have n0 := cell_of (i := 0) HG2.out.1 rfl
                    have n1 := cell_of (i := 1) HG2.out.1 rfl
                    have n2 := cell_of (i := 2) HG2.out.1 rfl
                    have n3 := cell_of (i := 3) HG2.out.1 rfl
                    have HSame := Lib.hid (l5_same w2x (optE N) (optE N) _ _ qg qb cg cb (((HG1.out.2.1.by_ HG2.out.2.1.len).below HG2.out.2.2)) HG2.out.2.1)
                    rw [sameE_refl] at HSame
                    have HBz : Hid (Below wd.heap.size wd w2x) := Lib.hid (HBq.out.trans ((HG1.out.2.2.trans (HG2.out.2.2.mono HG1.out.2.2.size)).mono HBq.out.size))
                    clear hid1 HG1 HG2 HRn1 HE1 HB1x HBa HZa HLt hbx1 HLv1
                    generalize N.isSome = ns at *
                    have hnn : (ns != ns) = false := by simp
                    generalize optE N = oN at *
                    dsimp only at m0 m1 m2 m3 n0 n1 n2 n3
                    go_wp2_with fail
                    refine HSame.out.mono ?_
                    rintro r w8 ⟨rfl, hb8⟩
                    have HB8 : Hid (Below wd.heap.size wd w8) := Lib.hid (HBz.out.trans (hb8.mono HBz.out.size))
                    clear hb8 HSame hnn
                    go_wp2_with fail
                    go_roundw
                    case rel => exact ⟨k + 1, by omega, by go_num, HB8.out⟩
                    case measure => simp [intOf]; omega
              · have q1 : (decide ((k : Int) < (es.length : Int)) && decide ((k : Int) < 100)) = false := by
                  rw [Bool.and_eq_false_iff]
                  simp only [decide_eq_false_iff_not]
                  omega
                by_cases hlt : k < es.length
                all_goals
                  have q2 : decide ((k : Int) < 100) = false ∨ ¬ k < es.length := by
                    simp only [decide_eq_false_iff_not]
                    omega
                  have HGetK := Lib.hid (H.get ww _ ma T (H.after HMa.out HBq.out) HTl.out key up (by omega) hup)
                  have HRnK : Hid (∀ V, Below ww.heap.size ww V → Calls Try.prog 25 #[.slice pl T.L.length cl, .string ⟨key.toArray⟩, .int .u64 (up : Int)] V fun e w' => ∃ q c, e = .returned (.tuple #[.agg #[.string ⟨(optE (newestE T.L key up)).key.toArray⟩, .int .u64 ((optE (newestE T.L key up)).seq : Int), .bool (optE (newestE T.L key up)).gone, .slice q (optE (newestE T.L key up)).val.length c], .bool (newestE T.L key up).isSome]) ∧
                    By w' (fun k => k < wd.heap.size) (.slice q (optE (newestE T.L key up)).val.length c) (optE (newestE T.L key up)).val ∧ Below V.heap.size V w') := Lib.hid (fun V hV => r5_newest V _ _ T.L (HEn.out.below (HBq.out.trans (hV.mono HBq.out.size))) key up)
                  generalize newestE T.L key up = N at *
                  go_wp2_with fail
                  refine HGetK.out.mono ?_
                  rintro r w8 ⟨qg, cg, rfl, hog, hb8⟩
                  obtain ⟨X, hX⟩ : ∃ X, w8.alloc (.cells #[.string ⟨(optE N).key.toArray⟩, .int .u64 ((optE N).seq : Int), .bool (optE N).gone, .slice qg (optE N).val.length cg] 35) = X := ⟨_, rfl⟩
                  have HG1 : Hid (BoxE' X w8.heap.size (optE N, (qg, cg)) ∧ OwnS (fun _ => True) X (.slice qg (optE N).val.length cg) (optE N).val ∧ Below ww.heap.size ww X) := Lib.hid (by
                    rw [← hX]
                    obtain ⟨k1, k2⟩ := box_new (e := optE N) (q := qg) (c := cg) hb8 35 rfl
                    exact ⟨k1, own_new hog _, k2⟩)
                  have hc1 : X.cell? ⟨tb, 1, none⟩ = some (.slice pl T.L.length cl) := by
                    have h1 := HBq.out.trans (HG1.out.2.2.mono HBq.out.size)
                    exact (h1.cell (p := ⟨tb, 1, none⟩) (cell_lt HLv.out)).trans HLv.out
                  have HRn1 := Lib.hid (HRnK.out X HG1.out.2.2)
                  clear HGetK HRnK hog hb8 q1 q2
                  go_wp2_with fail
                  refine HRn1.out.mono ?_
                  rintro r w9 ⟨qb, cb, rfl, hob, hb9⟩
                  obtain ⟨Y, hY⟩ : ∃ Y, w9.alloc (.cells #[.string ⟨(optE N).key.toArray⟩, .int .u64 ((optE N).seq : Int), .bool (optE N).gone, .slice qb (optE N).val.length cb] 35) = Y := ⟨_, rfl⟩
                  have HG2 : Hid (BoxE' Y w9.heap.size (optE N, (qb, cb)) ∧ By Y (fun k => k < wd.heap.size) (.slice qb (optE N).val.length cb) (optE N).val ∧ Below X.heap.size X Y) := Lib.hid (by
                    rw [← hY]
                    obtain ⟨k1, k2⟩ := box_new (e := optE N) (q := qb) (c := cb) hb9 35 rfl
                    exact ⟨k1, hob.below ((Below.refl _ _).alloc (Nat.le_refl _) _), k2⟩)
                  have HBY : Hid (Below wd.heap.size wd Y) := Lib.hid (HBq.out.trans ((HG1.out.2.2.trans (HG2.out.2.2.mono HG1.out.2.2.size)).mono HBq.out.size))
                  have HCs : Hid (∀ V, Below Y.heap.size Y V → (V.cell? ⟨tb, 1, none⟩ = some (.slice pl T.L.length cl) ∧ V.heap[w8.heap.size]? = some (.cells #[.string ⟨(optE N).key.toArray⟩, .int .u64 ((optE N).seq : Int), .bool (optE N).gone, .slice qg (optE N).val.length cg] 35 (0, 0))) ∧ V.heap[w9.heap.size]? = some (.cells #[.string ⟨(optE N).key.toArray⟩, .int .u64 ((optE N).seq : Int), .bool (optE N).gone, .slice qb (optE N).val.length cb] 35 (0, 0))) := Lib.hid (fun V hV => by
                    have h1 := HBY.out.trans (hV.mono HBY.out.size)
                    have h2 := HG2.out.2.2.trans (hV.mono HG2.out.2.2.size)
                    exact ⟨⟨(h1.cell (p := ⟨tb, 1, none⟩) (cell_lt HLv.out)).trans HLv.out, (h2.block _ (block_lt HG1.out.1)).trans HG1.out.1⟩, (hV.block _ (block_lt HG2.out.1)).trans HG2.out.1⟩)
                  have HSa : Hid (∀ V, Below Y.heap.size Y V → Calls Try.prog 26 #[.agg #[.string ⟨(optE N).key.toArray⟩, .int .u64 ((optE N).seq : Int), .bool (optE N).gone, .slice qg (optE N).val.length cg], .agg #[.string ⟨(optE N).key.toArray⟩, .int .u64 ((optE N).seq : Int), .bool (optE N).gone, .slice qb (optE N).val.length cb]] V fun r w' => r = .returned (.bool true) ∧ Below Y.heap.size Y w') := Lib.hid (fun V hV => by
                    have h := l5_same V (optE N) (optE N) _ _ qg qb cg cb ((((HG1.out.2.1.by_ HG2.out.2.1.len).below HG2.out.2.2)).below hV) (HG2.out.2.1.below hV)
                    rw [sameE_refl] at h
                    exact h.mono (by rintro r w' ⟨rfl, hb⟩; exact ⟨rfl, hV.trans (hb.mono hV.size)⟩))
                  have HAl : Hid (∀ V, Below Y.heap.size Y V → Calls Try.prog 28 #[.pointer (some ⟨ma, 0, none⟩)] V fun r w' => ∃ v, r = .returned v ∧ En w' (fun k => V.heap.size ≤ k) v T.L ∧ Below V.heap.size V w') := Lib.hid (fun V hV => H.all V _ ma T (H.after HMa.out (HBY.out.trans (hV.mono HBY.out.size))) HTl.out)
                  have HFr : Hid (∀ V, Below Y.heap.size Y V → Calls Try.prog 29 #[.pointer (some ⟨ma, 0, none⟩), .string ⟨key.toArray⟩] V fun r w' => ∃ v, r = .returned v ∧ En w' (fun k => V.heap.size ≤ k) v (T.L.drop (fromE key T.L)) ∧ Below V.heap.size V w') := Lib.hid (fun V hV => H.from_ V _ ma T (H.after HMa.out (HBY.out.trans (hV.mono HBY.out.size))) HTl.out key (by omega))
                  have HEV : Hid (∀ V, Below Y.heap.size Y V → En V (fun k => k < wd.heap.size) (.slice pl T.L.length cl) T.L) := Lib.hid (fun V hV => HEn.out.below (HBY.out.trans (hV.mono HBY.out.size)))
                  have HFm : Hid (∀ V, Below Y.heap.size Y V → Calls Try.prog 30 #[.slice pl T.L.length cl, .string ⟨key.toArray⟩] V fun e w' => e = .returned (.int .i64 (fromE key T.L : Int)) ∧ V = w') := Lib.hid (fun V hV => r5_from V _ _ T.L (HEV.out V hV) key)
                  obtain ⟨qd, cd, hdr, hcut⟩ := (HEV.out Y (Below.refl _ _)).from_ (fromE_le key T.L)
                  have HDr : Hid (∀ V, Below Y.heap.size Y V → En V (fun k => k < wd.heap.size) (.slice qd (T.L.length - fromE key T.L) cd) (T.L.drop (fromE key T.L))) := Lib.hid (fun V hV => hdr.below hV)
                  have HS1 : Hid (sameL T.L T.L = true) := Lib.hid (sameL_iff.2 rfl)
                  have HS2 : Hid (sameL (T.L.drop (fromE key T.L)) (T.L.drop (fromE key T.L)) = true) := Lib.hid (sameL_iff.2 rfl)
                  have HB0 : Hid (Below Y.heap.size Y Y.drew) := Lib.hid (below_drew (Below.refl _ _))
                  have HBW : Hid (Below w.heap.size w Y) := Lib.hid (HBr.out.trans (HBY.out.mono HBr.out.size))
                  generalize N.isSome = ns at *
                  have hnn : (ns == ns) = true := by simp
                  generalize optE N = oN at *
                  generalize fromE key T.L = fk at *
                  generalize T.L.drop fk = LD at *
                  clear hob hb9 hdr HG1 HG2 HRn1 hc1 HBr HBq HEn HMa HMb HLv HTb HWf HTl
                  have HCells : Hid (∀ V, Below Y.heap.size Y V → V.cell? ⟨tb, 1, none⟩ = some (.slice pl T.L.length cl) ∧
                      V.cell? ⟨w8.heap.size, 0, none⟩ = some (.string ⟨oN.key.toArray⟩) ∧ V.cell? ⟨w8.heap.size, 1, none⟩ = some (.int .u64 (oN.seq : Int)) ∧ V.cell? ⟨w8.heap.size, 2, none⟩ = some (.bool oN.gone) ∧ V.cell? ⟨w8.heap.size, 3, none⟩ = some (.slice qg oN.val.length cg) ∧
                      V.cell? ⟨w9.heap.size, 0, none⟩ = some (.string ⟨oN.key.toArray⟩) ∧ V.cell? ⟨w9.heap.size, 1, none⟩ = some (.int .u64 (oN.seq : Int)) ∧ V.cell? ⟨w9.heap.size, 2, none⟩ = some (.bool oN.gone) ∧ V.cell? ⟨w9.heap.size, 3, none⟩ = some (.slice qb oN.val.length cb)) := Lib.hid (fun V hV => by
                    obtain ⟨⟨h1, h2⟩, h3⟩ := HCs.out V hV
                    exact ⟨h1, cell_of (i := 0) h2 rfl, cell_of (i := 1) h2 rfl, cell_of (i := 2) h2 rfl, cell_of (i := 3) h2 rfl, cell_of (i := 0) h3 rfl, cell_of (i := 1) h3 rfl, cell_of (i := 2) h3 rfl, cell_of (i := 3) h3 rfl⟩)
                  go_upto_region 25 with (fail)
                  clear HCs hX hY
                  generalize w8.heap.size = ga at *
                  generalize w9.heap.size = gb at *
                  go_region_held3 (fun w' => w'.cell? ⟨tb, 1, none⟩ = some (.slice pl T.L.length cl) ∧
                      w'.cell? ⟨ga, 0, none⟩ = some (.string ⟨oN.key.toArray⟩) ∧ w'.cell? ⟨ga, 1, none⟩ = some (.int .u64 (oN.seq : Int)) ∧ w'.cell? ⟨ga, 2, none⟩ = some (.bool oN.gone) ∧ w'.cell? ⟨ga, 3, none⟩ = some (.slice qg oN.val.length cg) ∧
                      w'.cell? ⟨gb, 0, none⟩ = some (.string ⟨oN.key.toArray⟩) ∧ w'.cell? ⟨gb, 1, none⟩ = some (.int .u64 (oN.seq : Int)) ∧ w'.cell? ⟨gb, 2, none⟩ = some (.bool oN.gone) ∧ w'.cell? ⟨gb, 3, none⟩ = some (.slice qb oN.val.length cb))
                    (first
                      | exact HCells.out _ HBn.out
                      | exact HCells.out _ HB0.out)
                    (first
                      | (go_at_call 26
                         refine (HSa.out _ HB0.out).mono ?_
                         rintro r w20 ⟨rfl, hb20⟩
                         have HBn := Lib.hid hb20
                         clear hb20)
                      | (go_at_call 28
                         refine (HAl.out _ HBn.out).mono ?_
                         rintro r w21 ⟨va, rfl, hea, hb21⟩
                         obtain ⟨pa, ca, rfl, _, _, _, _⟩ := hea.form
                         have HEa := Lib.hid hea
                         have HBm := Lib.hid (HBn.out.trans (hb21.mono HBn.out.size))
                         clear hea hb21 HBn
                         have HBn := HBm
                         clear HBm)
                      | (go_at_call 27
                         have hsr := l5_sameRows _ _ _ _ _ T.L T.L HEa.out (HEV.out _ HBn.out)
                         rw [HS1.out] at hsr
                         refine hsr.mono ?_
                         rintro r w22 ⟨rfl, hb22⟩
                         have HBm := Lib.hid (HBn.out.trans (hb22.mono HBn.out.size))
                         clear hsr hb22 HBn
                         have HBn := HBm
                         clear HBm)
                      | (go_at_call 29
                         refine (HFr.out _ HBn.out).mono ?_
                         rintro r w23 ⟨vf, rfl, hef, hb23⟩
                         obtain ⟨pf, cf, rfl, _, _, _, _⟩ := hef.form
                         have HEf := Lib.hid hef
                         have HBm := Lib.hid (HBn.out.trans (hb23.mono HBn.out.size))
                         clear hef hb23 HBn
                         have HBn := HBm
                         clear HBm)
                      | (go_at_call 30
                         refine (HFm.out _ HBn.out).mono ?_
                         rintro r w24 ⟨rfl, rfl⟩)
                      | (go_at_call 27
                         have hsr := l5_sameRows _ _ _ _ _ LD LD HEf.out (HDr.out _ HBn.out)
                         rw [HS2.out] at hsr
                         refine hsr.mono ?_
                         rintro r w25 ⟨rfl, hb25⟩
                         have HBm := Lib.hid (HBn.out.trans (hb25.mono HBn.out.size))
                         clear hsr hb25 HBn
                         have HBn := HBm
                         clear HBm))
                  all_goals
                    go_wp2_with fail
                    go_ret
                    exact ⟨rfl, HBW.out.trans (HBn.out.mono HBW.out.size)⟩
end Go.Proofs.Ytdmjkejadaienaa
