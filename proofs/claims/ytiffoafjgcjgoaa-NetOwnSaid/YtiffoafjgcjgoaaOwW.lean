/-
  The walk over NetOwn.
-/
import Derived.Test.YtiffoafjgcjgoaaKnN
namespace Go.Proofs.Ytiffoafjgcjgoaa
open Go.RowKit

/-- The first n cells of block g are bytes that may be written. -/
def Byts (w : World) (g n : Nat) : Prop := ∃ cur fz, w.heap[g]? = some (.cells cur 5 fz) ∧ n ≤ cur.size ∧ (fz = (0, 0) ∨ cur.size ≤ fz.1) ∧ ∀ i, i < n → ∃ x : Int, cur[i]? = some (.int .u8 x)
section
variable {w w' : World} {g n : Nat}
theorem Byts.keep (h : Byts w g n) (hk : w'.heap[g]? = w.heap[g]?) : Byts w' g n := by
  obtain ⟨cur, fz, hg, r⟩ := h
  exact ⟨cur, fz, hk.trans hg, r⟩
theorem Byts.lt (h : Byts w g n) : g < w.heap.size := by
  obtain ⟨cur, fz, hg, r⟩ := h
  exact block_lt hg
theorem Byts.at_ (h : Byts w g n) {i : Nat} (hi : i < n) : ∃ x : Int, w.cell? ⟨g, i, none⟩ = some (.int .u8 x) ∧ w.frozen? ⟨g, i, none⟩ = false := by
  obtain ⟨cur, fz, hg, hn, hz, hat⟩ := h
  obtain ⟨x, hx⟩ := hat i hi
  refine ⟨x, cell_of hg hx, ?_⟩
  rcases hz with rfl | hz
  · exact frozen_of hg
  · obtain ⟨a, b⟩ := fz
    have hz2 : cur.size ≤ a := hz
    simp [World.frozen?, hg]
    omega
theorem Byts.set (h : Byts w g n) (i : Nat) (x : Int) : Byts (w.setCell ⟨g, i, none⟩ (.int .u8 x)) g n := by
  obtain ⟨cur, fz, hg, hn, hz, hat⟩ := h
  refine ⟨_, fz, setCell_same hg _, by rw [Array.size_setIfInBounds]; exact hn, by rw [Array.size_setIfInBounds]; exact hz, fun j hj => ?_⟩
  by_cases he : i = j
  · subst he
    exact ⟨x, by rw [Array.getElem?_setIfInBounds_self, if_pos (by omega)]⟩
  · rw [Array.getElem?_setIfInBounds_ne he]
    exact hat j hj
theorem Byts.of_own {base : Nat} {v : Value} {l : List UInt8} (h : Own w base v l) (hl : 0 < l.length) : ∃ g cap, v = .slice (some ⟨g, 0, none⟩) l.length cap ∧ l.length ≤ cap ∧ cap ≤ 9223372036854775807 ∧ base ≤ g ∧ Byts w g l.length := by
  have hr : w.ownsRow base 5 1 v l.length (bs l) := h
  rcases h.2 with ⟨_, h0⟩ | ⟨g, cap, cur, rfl, hb, hg, hn, hc, hsz, ht⟩
  · omega
  · refine ⟨g, cap, rfl, hn, by unfold maxLen at hc; exact hc, hb, cur, (0, 0), hg, by omega, .inl rfl, fun i hi => ⟨((l.getD i 0).toNat : Int), ?_⟩⟩
    have h1 := hr.cellAt i (by omega)
    rw [bs_at l i hi] at h1
    simpa [World.cell?, hg] using h1
theorem Byts.of_own1 {base : Nat} {v : Value} {l : List UInt8} (h : Own1 w base v l) (hl : 0 < l.length) : ∃ g cap, v = .slice (some ⟨g, 0, none⟩) l.length cap ∧ l.length ≤ cap ∧ cap ≤ 9223372036854775807 ∧ base ≤ g ∧ Byts w g l.length := by
  rcases h with ⟨_, rfl⟩ | ⟨g, cap, cur, fz, rfl, hb, hg, h1, h2, h3, h4, h5⟩
  · simp at hl
  · exact ⟨g, cap, rfl, h1, h2, hb, cur, fz, hg, h4, .inr h3, fun i hi => ⟨_, h5 i hi⟩⟩
end

/-- The law's net: j times the same. -/
def ow (b : List UInt8) (j : Nat) : PNet := ⟨2, 9, 0, List.replicate j ⟨0, 1, b⟩⟩
theorem ow_send (b : List UInt8) : sends 0 b (ow b 0) [1, 1] = ow b 2 := rfl
theorem ow_dbl (b : List UInt8) : dbl (ow b 2) 0 1 0 = ow b 3 := rfl
theorem ow_has (b : List UInt8) : ∀ j, j < 3 → has (ow b (j + 1)) 0 1 = true ∧ text (ow b (j + 1)) 0 1 0 = b ∧ take1 (ow b (j + 1)) 0 1 0 = ow b j
  | 0, _ => ⟨rfl, rfl, rfl⟩
  | 1, _ => ⟨rfl, rfl, rfl⟩
  | 2, _ => ⟨rfl, rfl, rfl⟩
  | j + 3, h => by omega

set_option maxRecDepth 100000 in
set_option maxHeartbeats 4000000 in
theorem own_any (W : World) (v : Value) (b : List UInt8) (h : Rd W W.heap.size v b) : Calls Try.prog 5 #[v] W fun e w' => e = .returned (.bool true) ∧ Below W.heap.size W w' := by
  have HR := Lib.hid h
  obtain ⟨p, cap, rfl, hlc, hl47, hcm, _⟩ := h.form
  clear h
  by_cases hbig : 1000 < b.length
  · have hb2 : (1000 : Int) < (b.length : Int) := by omega
    go_enter Try.func5, Try.ntmps5
    go_wp2_with fail
    refine (known_any W).mono ?_
    rintro e w0 ⟨rfl, hb0⟩
    go_wp2_with fail
    go_ret
    exact ⟨rfl, hb0⟩
  · by_cases hz : b.length = 0
    · rw [hz] at hlc
      go_enter Try.func5, Try.ntmps5
      rw [hz]
      go_wp2_with fail
      refine (known_any W).mono ?_
      rintro e w0 ⟨rfl, hb0⟩
      go_wp2_with fail
      go_ret
      exact ⟨rfl, hb0⟩
    · have hb1 : ¬ (1000 : Int) < (b.length : Int) := by omega
      have hb2 : ((b.length : Int) == 0) = false := by rw [beq_eq_false_iff_ne]; omega
      have HPos : Hid (0 < b.length) := Lib.hid (by omega)
      have HLn : Hid (b.length ≤ 1000) := Lib.hid (by omega)
      obtain ⟨n, hn⟩ : ∃ n, b.length = n := ⟨_, rfl⟩
      clear hbig hz
      rw [hn] at hb1 hb2 hlc hl47 HR
      have HNn := Lib.hid hn
      rw [hn]
      clear hn
      go_enter Try.func5, Try.ntmps5
      go_wp2_with fail
      refine (known_any W).mono ?_
      rintro e w0 ⟨rfl, hb0⟩
      have HB0 := Lib.hid hb0
      clear hb0
      go_wp2_with fail
      refine (new_any w0 2 9 (by omega) (by omega) (by omega) (by omega)).mono ?_
      rintro e w1 ⟨nb, rfl, hnb, hn1, hbb1⟩
      have hz1 := Nat.le_trans HB0.out.size hbb1.size
      have HN1 : Hid (Nt w1 (Iv W.heap.size w1.heap.size) nb (ow b 0)) := Lib.hid (hn1.iv0 (n := W.heap.size) (fun _ h => Nat.le_trans HB0.out.size h))
      have HB1 := Lib.hid (HB0.out.trans (hbb1.mono HB0.out.size))
      clear hn1 hbb1 hnb
      obtain ⟨w2, hw2⟩ : ∃ w2, w1.alloc (.cells #[] 5) = w2 := ⟨_, rfl⟩
      have hb12 : Below w1.heap.size w1 w2 := by rw [← hw2]; exact (Below.refl _ _).alloc (Nat.le_refl _) _
      have HO2 : Hid (Own w2 w1.heap.size (.slice (some ⟨w1.heap.size, 0, none⟩) 0 0) []) := Lib.hid (by
        rw [← hw2]
        simpa [Own, bs] using World.ownsRow_lit (e := 5) (size := 1) w1 #[] 0 (Nat.le_refl _) (Nat.zero_le _) rfl)
      have HR2 : Hid (Rd w2 W.heap.size (.slice p n cap) b) := Lib.hid (HR.out.below (HB1.out.trans (hb12.mono hz1)))
      have HB12 := Lib.hid hb12
      have HS12 := Lib.hid hb12.size
      clear hb12
      go_wp2_with (at_builtin; refine wpList_append_rd rfl (.tmp 31) (.tmp 32) rfl w1.heap.size W.heap.size (.slice (some ⟨w1.heap.size, 0, none⟩) 0 0) (.slice p n cap) [] b rfl HO2.out rfl HR2.out (by have := HLn.out; simp; omega) HS12.out ?_; intro mv w3 ho3 hb3; rw [List.nil_append] at ho3; obtain ⟨gm, mc, rfl, hmc, hmm, hgm, hbt⟩ := Byts.of_own ho3 HPos.out; rw [HNn.out] at hmc ho3 hbt ⊢; have HO3 := Lib.hid ho3; have HB3 := Lib.hid hb3; have HBt := Lib.hid hbt; have HGm := Lib.hid hgm; have hlt := hbt.lt; have HLt := Lib.hid hlt; clear ho3 hb3 hbt hgm hlt)
      obtain ⟨X, hX⟩ : ∃ X, w3.alloc (.cells #[.int .i64 1, .int .i64 1] 3) = X := ⟨_, rfl⟩
      rw [hX]
      have hbX : Below w3.heap.size w3 X := by rw [← hX]; exact (Below.refl _ _).alloc (Nat.le_refl _) _
      have hs3 := HB3.out.size
      have hz3 : w1.heap.size ≤ w3.heap.size := Nat.le_trans HS12.out hs3
      have hB1X : Below w1.heap.size w1 X := (HB12.out.trans HB3.out).trans (hbX.mono hz3)
      have hTs : RdV X (Iv W.heap.size w1.heap.size) (.slice (some ⟨w3.heap.size, 0, none⟩) 2 2) ([1, 1].map (Value.int .i64)) := by
        have h1 := RdV.new w3 (Iv W.heap.size w1.heap.size) ([1, 1].map (Value.int .i64)) 3 (0, 0) (by simp) (Iv.new _ _ _ hz3)
        rw [← hX]
        simpa using h1
      have hmR : Rd X X.heap.size (.slice (some ⟨gm, 0, none⟩) n mc) b := ((HO3.out.rd (by have := HLn.out; omega)).below hbX).more hbX.size
      have HS := Lib.hid (send_any X _ nb (ow b 0) (HN1.out.after hB1X) 0 _ b hmR (by have := HLn.out; omega) _ [1, 1] hTs)
      have HBX := Lib.hid (HB1.out.trans (hB1X.mono hz1))
      have hzX := Nat.le_trans hz1 hB1X.size
      have hXb : X.heap[gm]? = w3.heap[gm]? := hbX.block _ HLt.out
      have HBtX := Lib.hid (HBt.out.keep hXb)
      have HXs := Lib.hid hbX.size
      clear hbX hs3 hz3 hB1X hTs hmR hX hXb
      rw [ow_send] at HS
      refine HS.out.mono ?_
      rintro e w4 ⟨rfl, hn4, hf4⟩
      have HN4 : Hid (Nt w4 (fun k => Iv W.heap.size w4.heap.size k ∧ k ≠ gm) nb (ow b 2)) := Lib.hid (hn4.mono fun k hk hm => by
        have h1 := HGm.out
        have h2 := HLt.out
        have h3 := HXs.out
        rcases hm with hm | hm
        · exact ⟨⟨hm.1, hk⟩, fun e => by have := hm.2; omega⟩
        · exact ⟨⟨Nat.le_trans hzX hm, hk⟩, fun e => by omega⟩)
      have hb4 := HBX.out.trans (hf4.iv hzX (Iv.low _ _))
      have HBt4 := Lib.hid (HBtX.out.keep (hf4.block _ HBtX.out.lt (fun hm => by have := hm.2; have := HGm.out; omega)))
      have HB4 := Lib.hid hb4
      have hz4 := hb4.size
      have HD := Lib.hid (double_any w4 _ nb (ow b 2) HN4.out 0 1 0 (by omega))
      rw [ow_dbl] at HD
      clear hn4 hf4 hb4 HS HBtX HBX hzX HN1 HB1 HO2 HR2 HB12 HS12
      go_wp2_with fail
      refine HD.out.mono ?_
      rintro e w5 ⟨rfl, hn5, hf5⟩
      have HN5 : Hid (Nt w5 (fun k => Iv W.heap.size w5.heap.size k ∧ k ≠ gm) nb (ow b 3)) := Lib.hid (hn5.mono fun k hk hm => by
        have h1 := HBt4.out.lt
        rcases hm with hm | hm
        · exact ⟨⟨hm.1.1, hk⟩, hm.2⟩
        · exact ⟨⟨Nat.le_trans hz4 hm, hk⟩, fun e => by omega⟩)
      have HBt5 := Lib.hid (HBt4.out.keep (hf5.block _ HBt4.out.lt (fun hm => hm.2 rfl)))
      have HB5 := Lib.hid (HB4.out.trans (hf5.below hz4 (fun k hk hm => by have := hm.1.1; omega)))
      have HGW : Hid (W.heap.size ≤ gm) := Lib.hid (Nat.le_trans hz1 HGm.out)
      clear hn5 hf5 HD HN4 HB4 HBt4 hz4
      go_wp2_with fail
      go_loopw [6] (fun i wr => ∃ k : Nat, k ≤ n ∧ i = .int .i64 (k : Int) ∧ Hid (Byts wr gm n ∧ Fr (fun j => j = gm) w5 wr)) (fun i _ => n - (intOf i).toNat)
      case atStart => exact ⟨0, by omega, rfl, Lib.hid ⟨HBt5.out, Fr.refl _ _⟩⟩
      case round =>
        obtain ⟨k, hk, rfl, HQ⟩ := hrel
        by_cases hlt : k < n
        · obtain ⟨x, d0, z0⟩ := HQ.out.1.at_ hlt
          have HX1 := Lib.hid (fun y => HQ.out.1.set k y)
          have HX2 := Lib.hid (fun y => HQ.out.2.then (Fr.setCell (fun j => j = gm) wr (p := ⟨gm, k, none⟩) rfl (.int .u8 y)))
          go_wp2_with fail
          go_roundw
          case rel => exact ⟨k + 1, by omega, by go_num, Lib.hid ⟨HX1.out _, HX2.out _⟩⟩
          case measure => simp [intOf]; omega
        · have HN6 : Hid (Nt wr (Iv W.heap.size wr.heap.size) nb (ow b (3 - 0))) := Lib.hid (HN5.out.step HQ.out.2 (fun k _ hs e => hs.2 e) (fun k hk hs => ⟨hs.1.1, Nat.lt_of_lt_of_le hk HQ.out.2.size⟩))
          have HB6 : Hid (Below W.heap.size W wr) := Lib.hid (HB5.out.trans (HQ.out.2.below HB5.out.size (fun k hk e => by have := HGW.out; omega)))
          clear HN5 HB5 HQ HBt5
          go_wp2_with fail
          go_loopw [7] (fun i wr => ∃ k : Nat, k ≤ 3 ∧ i = .int .i64 (k : Int) ∧ Hid (Nt wr (Iv W.heap.size wr.heap.size) nb (ow b (3 - k)) ∧ Below W.heap.size W wr)) (fun i _ => 3 - (intOf i).toNat)
          case atStart => exact ⟨0, by omega, rfl, Lib.hid ⟨HN6.out, HB6.out⟩⟩
          case round =>
            obtain ⟨j, hj, rfl, HQ⟩ := hrel
            by_cases hlt3 : j < 3
            · obtain ⟨B, hB⟩ : ∃ B, B = wr := ⟨_, rfl⟩
              subst hB
              obtain ⟨q, hq⟩ : ∃ q, q = 2 - j := ⟨_, rfl⟩
              have e3 : 3 - j = q + 1 := by omega
              rw [e3] at HQ
              obtain ⟨o1, o2, o3⟩ := ow_has b q (by omega)
              have e5 : dF (ow b (q + 1)) 0 1 = 0 := by simp [dF, o1]
              have e6 : dT (ow b (q + 1)) 0 1 = 1 := by simp [dT, o1]
              have e7 : dX (ow b (q + 1)) 0 1 0 = b := by simp [dX, o1, o2]
              have HD := Lib.hid (deliver_any B _ nb (ow b (q + 1)) HQ.out.1 0 1 0 (by omega))
              rw [o1, o3, e5, e6, e7] at HD
              have HBB := Lib.hid HQ.out.2
              have hzB := HQ.out.2.size
              have HQq : Hid (q = 3 - (j + 1)) := Lib.hid (by omega)
              clear HQ o1 o2 o3 e3 e5 e6 e7 hq
              go_wp2_with fail
              refine HD.out.mono ?_
              rintro e w6 ⟨v6, rfl, ho6, hn6, hf6⟩
              have HRd6 := Lib.hid (ho6.rd (by have := HLn.out; omega))
              obtain ⟨gv, cv, rfl, hcv, hcm2, hgv, hby⟩ := Byts.of_own1 ho6 HPos.out
              rw [HNn.out] at hcv hby ⊢
              rw [HNn.out] at HRd6
              obtain ⟨Y, hY⟩ : ∃ Y, w6.alloc (.cells #[.int .i64 0, .int .i64 1, .slice (some ⟨gv, 0, none⟩) n cv] 41) = Y := ⟨_, rfl⟩
              have hbY : Below w6.heap.size w6 Y := by rw [← hY]; exact (Below.refl _ _).alloc (Nat.le_refl _) _
              have hYb : Y.heap[w6.heap.size]? = some (.cells #[.int .i64 0, .int .i64 1, .slice (some ⟨gv, 0, none⟩) n cv] 41 (0, 0)) := by rw [← hY]; exact heap_alloc_new w6 _
              have hb6 := HBB.out.trans (hf6.iv hzB (Iv.low _ _))
              have hbWY := hb6.trans (hbY.mono hb6.size)
              have hst1 : (convert 34 9 (.slice (some ⟨gv, 0, none⟩) n cv)).run Try.prog Y = .ok (.string ⟨b.toArray⟩) Y := str_run (HRd6.out.below hbY)
              have hst2 : (convert 34 9 (.slice p n cap)).run Try.prog Y = .ok (.string ⟨b.toArray⟩) Y := str_run (HR.out.below hbWY)
              have hgl := hby.lt
              have HByY := Lib.hid (hby.keep (hbY.block _ hgl))
              have HNY : Hid (Nt Y (fun k => Iv W.heap.size B.heap.size k) nb (ow b q)) := Lib.hid (hn6.after hbY)
              have HBY := Lib.hid hbWY
              have HYb := Lib.hid hYb
              have hmg : w6.heap.size ≠ gv := by omega
              have d2 : Y.cell? ⟨w6.heap.size, 2, none⟩ = some (.slice (some ⟨gv, 0, none⟩) n cv) := cell_of hYb rfl
              have HSY : Hid (B.heap.size ≤ Y.heap.size) := Lib.hid (Nat.le_trans hf6.size hbY.size)
              clear ho6 hn6 hf6 hby hbY hYb hb6 hbWY HD HRd6 hgl
              go_wp2_with fail
              clear d2 hst1 hst2
              go_loopw [10] (fun i wr => ∃ k : Nat, k ≤ n ∧ i = .int .i64 (k : Int) ∧ Hid (Byts wr gv n ∧ Fr (fun j => j = gv) Y wr)) (fun i _ => n - (intOf i).toNat)
              case atStart => exact ⟨0, by omega, rfl, Lib.hid ⟨HByY.out, Fr.refl _ _⟩⟩
              case round =>
                obtain ⟨k, hk, rfl, HP⟩ := hrel
                have d2 : wr.cell? ⟨w6.heap.size, 2, none⟩ = some (.slice (some ⟨gv, 0, none⟩) n cv) := cell_of (HP.out.2.keep HYb.out hmg) rfl
                by_cases hlt : k < n
                · obtain ⟨x, d0, z0⟩ := HP.out.1.at_ hlt
                  have HX1 := Lib.hid (fun y => HP.out.1.set k y)
                  have HX2 := Lib.hid (fun y => HP.out.2.then (Fr.setCell (fun j => j = gv) wr (p := ⟨gv, k, none⟩) rfl (.int .u8 y)))
                  go_wp2_with fail
                  go_still_tail 10, (by kernel_rfl)
                  go_wp2_with fail
                  go_roundw
                  case rel => exact ⟨k + 1, by omega, by go_num, Lib.hid ⟨HX1.out _, (HX2.out _).drew⟩⟩
                  case measure => simp [intOf]; omega
                · have HNw : Hid (Nt wr (Iv W.heap.size wr.heap.size) nb (ow b (3 - (j + 1)))) := Lib.hid (by
                    rw [← HQq.out]
                    exact HNY.out.step HP.out.2 (fun k _ hs e => by have := hs.2; omega) (fun k hk hs => ⟨hs.1, Nat.lt_of_lt_of_le hk HP.out.2.size⟩))
                  have HBw : Hid (Below W.heap.size W wr) := Lib.hid (HBY.out.trans (HP.out.2.below HBY.out.size (fun k hk e => by omega)))
                  go_wp2_with fail
                  go_roundw
                  case rel => exact ⟨j + 1, by omega, by go_num, Lib.hid ⟨HNw.out, HBw.out⟩⟩
                  case measure => simp [intOf]; omega
            · go_wp2_with fail
              go_ret
              exact ⟨rfl, HQ.out.2⟩
end Go.Proofs.Ytiffoafjgcjgoaa
