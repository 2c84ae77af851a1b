/-
  The walk over (*queue).sink.
-/
import Derived.Test.YteclnnjijfbfoaaMgR
namespace Go.Proofs.Yteclnnjijfbfoaa
open Go.RowKit

def InHp (hp : Option Addr) (k : Nat) : Prop := ∃ a, hp = some a ∧ k = a.block
theorem QM.hpne {w : World} {A qb : Nat} {g : Nat} {cap : Nat} {hs : List Hd} (h : QM w A qb (some ⟨g, 0, none⟩) cap hs) : ∃ cur, w.heap[g]? = some (.cells cur 106 (0, 0)) := by
  rcases h.row.2 with ⟨e, _⟩ | ⟨g', cap', cur, e, _, h2, _⟩
  · cases e
  · injection e with e _ _
    injection e with e
    injection e with e _ _
    subst e
    exact ⟨cur, h2⟩
/-- The row of heads has changed. -/
theorem QM.re {w w' : World} {A qb g cap : Nat} {hs hs' : List Hd} (h : QM w A qb (some ⟨g, 0, none⟩) cap hs) (hf : Fr (fun k => k = g) w w') (hp : hs'.Perm hs)
    (hr : w'.ownsRow A 106 6 (.slice (some ⟨g, 0, none⟩) hs.length cap) hs.length (hcs hs')) : QM w' A qb (some ⟨g, 0, none⟩) cap hs' := by
  obtain ⟨cur, hg⟩ := h.hpne
  have hgA := (World.ownsRow.lt h.row g rfl).1
  have hl := hp.length_eq
  refine ⟨?_, h.qlo, by rw [hl]; exact hr, fun x hx => ?_, fun x hx => (h.val x (hp.mem_iff.1 hx)).step hf fun k _ hk e => by omega, (hp.pairwise_iff (fun h e => h e.symm)).2 h.bls, by rw [hl]; exact h.few⟩
  · rw [hl]
    exact (hf.block _ (block_lt h.q) (kind_ne h.q hg (by decide))).trans h.q
  · obtain ⟨b1, p, c, b2, b3⟩ := h.box x (hp.mem_iff.1 hx)
    exact ⟨b1, p, c, (hf.block _ (block_lt b2) (kind_ne b2 hg (by decide))).trans b2, b3.step hf fun k _ hk e => by omega⟩
theorem QM.frz {w : World} {A qb g cap : Nat} {hs : List Hd} (h : QM w A qb (some ⟨g, 0, none⟩) cap hs) (j : Nat) : w.frozen? ⟨g, j, none⟩ = false := World.ownsRow.frozenAt h.row j
def put6 (w : World) (g o : Nat) (b : Hd) : World := set6 w g o (.string ⟨b.e.key.toArray⟩) (.int .u64 (b.e.seq : Int)) (.bool b.e.gone) (.slice b.q b.e.val.length b.c) (srcV b.bl) (.int .i64 (b.num : Int))
theorem QM.swap {w : World} {A qb g cap : Nat} {cur : List Hd} (h : QM w A qb (some ⟨g, 0, none⟩) cap cur) {m first : Nat} {a b : Hd} (ha : cur[m]? = some a) (hb : cur[first]? = some b) :
    QM (put6 (put6 w g (m * 6) b) g (first * 6) a).drew A qb (some ⟨g, 0, none⟩) cap (swH cur m first a b) ∧ Fr (fun k => k = g) w (put6 (put6 w g (m * 6) b) g (first * 6) a).drew := by
  have hm := (List.getElem?_eq_some_iff.1 ha).1
  have hf := (List.getElem?_eq_some_iff.1 hb).1
  have r1 := set6_row h.row hm b
  have r2 := set6_row r1 (i := first) (by rw [List.length_set]; exact hf) a
  have hfr : Fr (fun k => k = g) w (put6 (put6 w g (m * 6) b) g (first * 6) a) := (set6_fr _ g _ _ _ _ _ _ _ (fun k => k = g) rfl).then (set6_fr _ g _ _ _ _ _ _ _ (fun k => k = g) rfl)
  exact ⟨(h.re hfr (swH_perm ha hb) r2).below (below_drew (Below.refl _ _)), hfr.then (Fr.of_new (below_drew (Below.refl _ _)) _)⟩

set_option maxRecDepth 100000 in
set_option maxHeartbeats 8000000 in
theorem q_sink (w : World) (A qb : Nat) (hp : Option Addr) (cap : Nat) (hs : List Hd) (h : QM w A qb hp cap hs) {lo at_ : Nat} (hsk : SinkI lo at_ hs hs) (hat : at_ ≤ 1024) :
    Calls Try.prog 60 #[.pointer (some ⟨qb, 0, none⟩), .int .i64 (at_ : Int)] w fun r w' => r = .returned (.tuple #[]) ∧ ∃ hs', hs'.Perm hs ∧ HpFrom lo hs' ∧ QM w' A qb hp cap hs' ∧ Fr (InHp hp) w w' := by
  have HQ := Lib.hid h
  have HSk := Lib.hid hsk
  clear h hsk
  go_enter Try.func60, Try.ntmps60
  go_wp2_with fail
  go_loopg [1] (1025 - at_) (fun g av wq => ∃ (m : Nat) (cur : List Hd), g + m = 1025 ∧ av = .int .i64 (m : Int) ∧ SinkI lo m hs cur ∧ QM wq A qb hp cap cur ∧ Fr (InHp hp) w wq)
  case atStart => exact ⟨at_, hs, by omega, rfl, HSk.out, HQ.out, Fr.refl _ _⟩
  case round =>
    obtain ⟨m, cur, hg, rfl, hsi, hq, hfr⟩ := hrel
    obtain ⟨wo, hwo⟩ : ∃ wo, wo = wr := ⟨_, rfl⟩
    subst hwo
    have HSi := Lib.hid hsi
    have HQo := Lib.hid hq
    have HFr := Lib.hid hfr
    have HMn := Lib.hid (MinI.start cur m)
    clear hsi hq hfr HSk HQ
    go_wp2_with fail
    go_loopg [4, 5] 3 (fun g fv cv wx => ∃ (first child : Nat), g + child = 2 * m + 4 ∧ fv = .int .i64 (first : Int) ∧ cv = .int .i64 (child : Int) ∧ MinI cur m child first ∧ Below wo.heap.size wo wx)
    case atStart => exact ⟨m, 2 * m + 1, by omega, rfl, by go_num, HMn.out, Below.refl _ _⟩
    case round =>
      obtain ⟨first, child, hg2, rfl, rfl, hmi, hbx⟩ := hrel
      have hQ1 := HQo.out.below hbx
      have q0 := cell_of (i := 0) hQ1.q rfl
      have hql := block_lt hQ1.q
      have hfew := hQ1.few
      obtain ⟨hlc, hcm⟩ := hQ1.room
      have HMi := Lib.hid hmi
      have HB := Lib.hid hbx
      have HQ1 := Lib.hid hQ1
      have hlo := hmi.lo
      have hhi := hmi.hi
      clear hQ1 hmi hbx HMn
      by_cases hin : child ≤ 2 * m + 2 ∧ child < cur.length
      · obtain ⟨hc1, hc2⟩ := hin
        obtain ⟨a, ha⟩ : ∃ a, cur[child]? = some a := ⟨_, List.getElem?_eq_getElem hc2⟩
        obtain ⟨b, hb⟩ : ∃ b, cur[first]? = some b := ⟨_, List.getElem?_eq_getElem (by rcases HMi.out.len with e | e <;> omega)⟩
        have HAh : Hid (∀ V, Below wr.heap.size wr V → Calls Try.prog 64 #[.pointer (some ⟨qb, 0, none⟩), .int .i64 (child : Int), .int .i64 (first : Int)] V fun r w' => r = .returned (.bool (ahd a b)) ∧ Below V.heap.size V w') := Lib.hid (fun V hV => q_ahead V A qb hp cap cur (HQ1.out.below hV) ha hb)
        have HAB := Lib.hid (And.intro ha hb)
        clear ha hb
        rcases hah : ahd a b with _ | _
        · rw [hah] at HAh
          have HN := Lib.hid (HMi.out.no hc1 HAB.out.1 HAB.out.2 hah)
          clear hah
          go_wp2_with (go_at_call 64
                       refine (HAh.out _ (Below.refl _ _)).mono ?_
                       rintro r wz ⟨rfl, hbz⟩
                       have HBz := Lib.hid (HB.out.trans (hbz.mono HB.out.size))
                       clear hbz)
          go_roundg (2 * m + 4 - (child + 1))
          case measure => omega
          case rel => exact ⟨first, child + 1, by omega, rfl, by go_num, HN.out, HBz.out⟩
        · rw [hah] at HAh
          have HN := Lib.hid (HMi.out.yes hc1 HAB.out.1 HAB.out.2 hah)
          clear hah
          go_wp2_with (go_at_call 64
                       refine (HAh.out _ (Below.refl _ _)).mono ?_
                       rintro r wz ⟨rfl, hbz⟩
                       have HBz := Lib.hid (HB.out.trans (hbz.mono HB.out.size))
                       clear hbz)
          go_roundg (2 * m + 4 - (child + 1))
          case measure => omega
          case rel => exact ⟨child, child + 1, by omega, rfl, by go_num, HN.out, HBz.out⟩
      · have HCh : Hid (∀ k, k = 2 * m + 1 ∨ k = 2 * m + 2 → k < cur.length → k < child) := Lib.hid (fun k hk hkl => by omega)
        by_cases hfm : first = m
        · subst hfm
          by_cases hc1 : child ≤ 2 * first + 2
          · have hc2 : cur.length ≤ child := by omega
            clear hin
            go_wp2_with fail
            refine Go.bodyPost_ret (Go.results_none rfl _ _ _) rfl ?_
            exact ⟨rfl, cur, HSi.out.perm, HSi.out.stop (HMi.out.stop HCh.out), HQ1.out, HFr.out.then (Fr.of_new HB.out _)⟩
          · clear hin
            go_wp2_with fail
            refine Go.bodyPost_ret (Go.results_none rfl _ _ _) rfl ?_
            exact ⟨rfl, cur, HSi.out.perm, HSi.out.stop (HMi.out.stop HCh.out), HQ1.out, HFr.out.then (Fr.of_new HB.out _)⟩
        · have hfl : first < cur.length := by rcases HMi.out.len with e | e <;> omega
          have hmf : m < first := by rcases HMi.out.fst with e | e <;> omega
          obtain ⟨a, ha⟩ : ∃ a, cur[m]? = some a := ⟨_, List.getElem?_eq_getElem (by omega)⟩
          obtain ⟨b, hb⟩ : ∃ b, cur[first]? = some b := ⟨_, List.getElem?_eq_getElem hfl⟩
          obtain ⟨gb, rfl, hgA, hgl, a0, a1, a2, a3, a4, a5⟩ := HQ1.out.at_ ha
          obtain ⟨g', e, _, _, b0, b1, b2, b3, b4, b5⟩ := HQ1.out.at_ hb
          injection e with e
          injection e with e _ _
          subst e
          have hz := fun j => HQ1.out.frz j
          have z0 := hz (m * 6)
          have z1 := hz (m * 6 + 1)
          have z2 := hz (m * 6 + 2)
          have z3 := hz (m * 6 + 3)
          have z4 := hz (m * 6 + 4)
          have z5 := hz (m * 6 + 5)
          have y0 := hz (first * 6)
          have y1 := hz (first * 6 + 1)
          have y2 := hz (first * 6 + 2)
          have y3 := hz (first * 6 + 3)
          have y4 := hz (first * 6 + 4)
          have y5 := hz (first * 6 + 5)
          have hs1 := HQ1.out.swap ha hb
          unfold put6 set6 srcV at hs1
          have HFw := Lib.hid (hs1.2.mono (fun k _ (e : k = gb) => (⟨_, rfl, e⟩ : InHp (some ⟨gb, 0, none⟩) k)))
          have HSw := Lib.hid hs1
          have HSs := Lib.hid (HSi.out.step HMi.out HCh.out hfm ha hb)
          unfold srcV at a4 b4
          have hqb : qb ≠ gb := by
            obtain ⟨cu, hcu⟩ := HQ1.out.hpne
            exact kind_ne HQ1.out.q hcu (by decide)
          clear hs1 ha hb hz
          by_cases hc1 : child ≤ 2 * m + 2
          · have hc2 : cur.length ≤ child := by omega
            clear hin
            go_upto_region 7 with (fail)
            go_region
            all_goals
              go_wp2_with fail
              go_roundg (1025 - first)
              case measure => omega
              case rel => exact ⟨first, swH cur m first a b, by omega, rfl, HSs.out, HSw.out.1, HFr.out.then ((Fr.of_new HB.out _).then HFw.out)⟩
          · clear hin
            go_upto_region 7 with (fail)
            go_region
            all_goals
              go_wp2_with fail
              go_roundg (1025 - first)
              case measure => omega
              case rel => exact ⟨first, swH cur m first a b, by omega, rfl, HSs.out, HSw.out.1, HFr.out.then ((Fr.of_new HB.out _).then HFw.out)⟩
end Go.Proofs.Yteclnnjijfbfoaa
