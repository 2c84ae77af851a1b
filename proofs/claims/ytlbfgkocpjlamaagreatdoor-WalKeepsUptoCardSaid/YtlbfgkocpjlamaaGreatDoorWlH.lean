/-
  A law's disk and log, from its begin on; the chapter's example.
-/
import Derived.Test.YtlbfgkocpjlamaaGreatDoorWlG
namespace Go.Proofs.YtlbfgkocpjlamaaGreatDoor
open Go.RowKit

structure Ds (W : World) (db : Nat) (S : Nat → Prop) (w : World) (D : Dsk) : Prop where
  dn : Dn w S db D
  tb : Tb w
  bw : Below W.heap.size W w
  up : ∀ k, S k → W.heap.size ≤ k
structure Ls (W : World) (lb db n : Nat) (nm : List UInt8) (S : Nat → Prop) (w : World) (D : Dsk) : Prop where
  lg : Lg w S lb db n nm S w D
  bw : Below W.heap.size W w
  up : ∀ k, S k → W.heap.size ≤ k
section
variable {W w w' : World} {S S' : Nat → Prop} {lb db n : Nat} {nm : List UInt8} {D D' : Dsk}
theorem Ls.ds (h : Ls W lb db n nm S w D) : Ds W db S w D := ⟨h.lg.dn, h.lg.tb, h.bw, h.up⟩
theorem up_next (hb : Below W.heap.size W w) (h : ∀ k, S k → W.heap.size ≤ k) (hx : Nx S S' w) : ∀ k, S' k → W.heap.size ≤ k := fun k hk => (hx k hk).elim (h k) fun hle => Nat.le_trans hb.size hle
theorem bw_next (hb : Below W.heap.size W w) (h : ∀ k, S k → W.heap.size ≤ k) (hf : Fr S w w') : Below W.heap.size W w' := hb.trans (hf.below hb.size fun k hk hs => by have := h k hs; omega)
theorem Ls.next {m : Nat} (h : Ls W lb db n nm S w D) (k : Lg w S lb db m nm S' w' D') : Ls W lb db m nm S' w' D' := ⟨k.again, bw_next h.bw h.up k.fr, up_next h.bw h.up k.nx⟩
theorem Ds.log {m : Nat} (h : Ds W db S w D) (k : Lg w S lb db m nm S' w' D') : Ls W lb db m nm S' w' D' := ⟨k.again, bw_next h.bw h.up k.fr, up_next h.bw h.up k.nx⟩
theorem Ds.next (h : Ds W db S w D) (hd : Dn w' S' db D') (hf : Fr S w w') (hx : Nx S S' w) : Ds W db S' w' D' := ⟨hd, h.tb.fr hf h.dn.lo, bw_next h.bw h.up hf, up_next h.bw h.up hx⟩
theorem Ls.below (h : Ls W lb db n nm S w D) (hb : Below w.heap.size w w') : Ls W lb db n nm S w' D := ⟨(h.lg.below hb).again, h.bw.trans (hb.mono h.bw.size), h.up⟩
theorem Ds.below (h : Ds W db S w D) (hb : Below w.heap.size w w') : Ds W db S w' D := ⟨h.dn.below hb, h.tb.below hb, h.bw.trans (hb.mono h.bw.size), h.up⟩
theorem Ds.new (hT : Tb W) {db : Nat} (h : Dk w (fun k => W.heap.size ≤ k) db D) (hb : Below W.heap.size W w) : Ds W db (fun k => W.heap.size ≤ k ∧ k < w.heap.size) w D :=
  ⟨⟨h.mono fun _ hk hs => ⟨hs, hk⟩, fun _ hk => Nat.le_trans hT.size hk.1, fun _ hk => hk.2⟩, hT.below hb, hb, fun _ hk => hk.1⟩
theorem Ls.alloc (h : Ls W lb db n nm S w D) (o : Obj) : Ls W lb db n nm S (w.alloc o) D := h.below ((Below.refl _ _).alloc (Nat.le_refl _) o)
end

theorem frames_append (a b : List (List UInt8)) : frames (a ++ b) = frames a ++ frames b := by simp [frames]
theorem frame_one (x : UInt8) : (frame [x]).length = 6 := by
  rw [frame_eq_length, List.length_singleton, num_lo _ (by omega)]
  rfl
theorem wh_known : wh [[97], [98]] 9 = (1, 6) := by
  simp [wh, frame_one]
theorem seg_known : segName [108, 111, 103] 7 = [108, 111, 103, 45, 48, 48, 48, 48, 48, 55] := by decide +kernel

set_option maxRecDepth 100000 in
set_option maxHeartbeats 1000000 in
theorem known_any (w : World) (hT : Tb w) : Calls Tryz.prog 6 #[] w fun e w' => e = .returned (.bool true) ∧ Below w.heap.size w w' := by
  have hlog : isLog [108, 111, 103] = true := by decide +kernel
  have HNew := Lib.hid (new_any w 1000 (by omega) (by omega))
  have HT := Lib.hid hT
  have kc := fun (w : World) (C : Array Value) (n c : Nat) => Lib.run_convert_bytes_const (P := Tryz.prog) w 41 5 C n c Tryz.underlying41 Tryz.underlying5
  go_enter Tryz.func6, Tryz.ntmps6
  go_wp2_with (go_at_call 8; refine HNew.out.mono ?_; rintro e w1 ⟨rfl, hd, hb⟩; refine Hid.out ?_)
  have D1 := Lib.hid (Ds.new HT.out hd hb)
  clear hd hb HNew
  generalize (fun k => w.heap.size ≤ k ∧ k < w1.heap.size) = S1 at D1
  generalize w.heap.size = db at *
  have HO := Lib.hid (open_new w1 S1 db [108, 111, 103] _ D1.out.dn D1.out.tb 0 hlog rfl (by omega))
  refine Lib.hid ?_
  go_wp2_with (go_at_call 9; refine HO.out.mono ?_; rintro e w2 ⟨v2, lb, rfl, hlb, S2, hrow, hl2⟩; refine Hid.out ?_)
  obtain ⟨p2, c2, rfl, _⟩ := hrow.shape
  have L2 := Lib.hid (D1.out.log hl2)
  clear hrow hl2 HO hlb
  -- Append(a)
  have L3 := Lib.hid ((L2.out.alloc (.cells #[.int .u8 97] 5 (1, 2))).alloc (.cells #[.slice (some ⟨w2.heap.size, 0, none⟩) 1 1] 41))
  have hr3 := RdL.one (Rd.newm w2 [97] 5 #[.int .u8 97] (1, 2) rfl (by simp)) (by simp) 41
  simp only [World.size_alloc, List.length_singleton] at hr3
  have HA := Lib.hid (append_lf _ S2 lb db [108, 111, 103] _ 0 [] [] 0 L3.out.lg hlog (by simp) _ [[97]] (hr3.more (by simp)) (by simp) (by simp [roomC]) (by simp [frames, frame_one]))
  clear hr3
  refine Lib.hid ?_
  go_wp2_with (go_at_call 10; refine HA.out.mono ?_; rintro e w4 ⟨rfl, S4, hl4⟩; refine Hid.out ?_)
  rw [List.nil_append] at hl4
  have L4 := Lib.hid (L3.out.next hl4)
  clear hl4 HA L3
  -- Sync
  have HSy := Lib.hid (sync_lf w4 S4 lb db [108, 111, 103] _ 0 [] (frames [[97]]) 0 L4.out.lg hlog (by simp))
  refine Lib.hid ?_
  go_wp2_with (go_at_call 11; refine HSy.out.mono ?_; rintro e w5 ⟨rfl, S5, hl5⟩; refine Hid.out ?_)
  have L5 := Lib.hid (L4.out.next hl5)
  clear hl5 HSy L4
  -- Append(b)
  have L6 := Lib.hid ((L5.out.alloc (.cells #[.int .u8 98] 5 (1, 2))).alloc (.cells #[.slice (some ⟨w5.heap.size, 0, none⟩) 1 1] 41))
  have hr6 := RdL.one (Rd.newm w5 [98] 5 #[.int .u8 98] (1, 2) rfl (by simp)) (by simp) 41
  simp only [World.size_alloc, List.length_singleton] at hr6
  have HA := Lib.hid (append_lf _ S5 lb db [108, 111, 103] _ 0 [] (frames [[97]]) (frames [[97]]).length L6.out.lg hlog (by simp) _ [[98]] (hr6.more (by simp)) (by simp) (by simp [roomC]) (by simp [frames, frame_one]))
  clear hr6
  refine Lib.hid ?_
  go_wp2_with (go_at_call 10; refine HA.out.mono ?_; rintro e w7 ⟨rfl, S7, hl7⟩; refine Hid.out ?_)
  rw [show frames [[97]] ++ frames [[98]] = frames [[97], [98]] from (frames_append [[97]] [[98]]).symm] at hl7
  have L7 := Lib.hid (L6.out.next hl7)
  clear hl7 HA L6
  -- a crash
  have D7 := Lib.hid (L7.out.alloc (.cells #[.int .i64 3] 3)).ds
  have hp7 := RdV.one w7 S7 (.int .i64 3) 3 (L7.out.lg.dn.out (Nat.le_refl _))
  have hcr := crash_lf _ S7 db [108, 111, 103] _ 0 [] (frames [[97], [98]]) (frames [[97]]).length D7.out.dn (by simp [frames, frame_one]) (by simp) _ [3] hp7 (by simp)
  rw [show left (frames [[97], [98]]) (frames [[97]]).length (([3] : List Int).getD ([] : List (List (List UInt8))).length 0) = 9 by simp [left, kept, frames, frame_one]] at hcr
  have HC := Lib.hid hcr
  clear hcr hp7
  refine Lib.hid ?_
  go_wp2_with (go_at_call 13; refine HC.out.mono ?_; rintro e w8 ⟨rfl, hfr, S8, hx, hd⟩; refine Hid.out ?_)
  have D8 := Lib.hid (D7.out.next hd hfr hx)
  clear hfr hx hd HC D7 L7
  -- Open
  have HO := open_log w8 S8 db [108, 111, 103] _ 0 [] [[97], [98]] 9 9 D8.out.dn D8.out.tb hlog (by simp [frames, frame_one]) (by simp) (fun x hx => by cases hx) (by simp) (by simp [frames, frame_one]) (by simp)
  rw [wh_known] at HO
  have HO := Lib.hid HO
  refine Lib.hid ?_
  go_wp2_with (go_at_call 9; refine HO.out.mono ?_; rintro e w9 ⟨v9, lb9, rfl, _, S9, hrow, hl9⟩; refine Hid.out ?_)
  have L9 := Lib.hid (D8.out.log hl9)
  obtain ⟨p9, c9, rfl, _⟩ := hrow.shape
  obtain ⟨b9, off9, u9, rfl, hb9, hc9, hrd9⟩ := (hrow.rdl (by simp)).at_ (k := 0) (by simp)
  have hcv := convert_rd hrd9
  have HS7 := Lib.hid (seg_any [108, 111, 103] 7 (by omega) (by simp) w9 L9.out.lg.tb.pow)
  rw [seg_known] at HS7
  simp only [List.flatten_nil, List.nil_append, List.take_succ_cons, List.take_zero, List.length_cons, List.length_nil, List.getElem_cons_zero, Nat.add_zero] at hcv hrow hc9 ⊢
  obtain ⟨px, cx, rfl, _⟩ := hrd9
  have hcv2 : (Go.convert 41 9 (.slice px 1 cx)).run Tryz.prog w9 = .ok (.string ⟨#[97]⟩) w9 := hcv
  clear hcv
  clear hl9 hrow HO D8
  refine Lib.hid ?_
  go_wp2_with (go_at_call 16; refine HS7.out.mono ?_; rintro e w10 ⟨rfl, hb10⟩)
  go_ret
  exact ⟨rfl, L9.out.bw.trans (hb10.mono L9.out.bw.size)⟩
end Go.Proofs.YtlbfgkocpjlamaaGreatDoor
