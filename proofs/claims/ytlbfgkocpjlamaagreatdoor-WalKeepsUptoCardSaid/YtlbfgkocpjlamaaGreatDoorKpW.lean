/-
  The walk over glacierlaw4.WalKeeps: for any acts and any picks the answer is true, and no memory that was there is changed.
-/
import Derived.Test.YtlbfgkocpjlamaaGreatDoorSpP
import Derived.Test.YtlbfgkocpjlamaaGreatDoorFwK
namespace Go.Proofs.YtlbfgkocpjlamaaGreatDoor
open Go.RowKit

theorem Ls.rot' {W w w' : World} {S S' : Nat → Prop} {lb db n m : Nat} {nm : List UInt8} {D D' : Dsk} (h : Ls W lb db n nm S w D) (hlb : W.heap.size ≤ lb) (hf : Fr (fun k => S k ∨ k = lb) w w') (hx : Nx S S' w) (k : Lg w' S' lb db m nm S' w' D') : Ls W lb db m nm S' w' D' :=
  ⟨k, bw_next h.bw (fun k hk => hk.elim (h.up k) fun e => by omega) hf, up_next h.bw h.up hx⟩
/-- Those of a log: its disk's blocks, and its own. -/
def Ol (S : Nat → Prop) (lb : Nat) : Nat → Prop := fun j => S j ∨ j = lb
theorem Ol.nx {S S' : Nat → Prop} {lb : Nat} {w : World} (h : Nx S S' w) : ∀ k, Ol S' lb k → Ol S lb k ∨ w.heap.size ≤ k := fun k hk => hk.elim (fun hs => (h k hs).imp .inl id) fun e => .inl (.inr e)
/-- What stands behind k acts. -/
def KpR (w1 : World) (lb db : Nat) (D : Dsk) (xs : List WAct) (k : Nat) (v : Value) (sy : Nat) (wr : World) : Prop :=
  ∃ (S : Nat → Prop) (old : List (List (List UInt8))) (cur : List (List UInt8)) (s : Nat), Ls w1 lb db (0 + old.length) [119] S wr (logD D [119] 0 old (frames cur) (frames (cur.take s)).length) ∧ RowW wr (Ol S lb) w1.heap.size v (old.flatten ++ cur) ∧
    s ≤ cur.length ∧ sy = old.flatten.length + s ∧ old.length ≤ k ∧ (old.flatten ++ cur).length + fln (old.flatten ++ cur) ≤ cntX (xs.take k)
theorem frames_take_le (ls : List (List UInt8)) (k : Nat) : (frames (ls.take k)).length ≤ (frames ls).length := by
  conv => rhs; rw [← List.take_append_drop k ls, frames_append, List.length_append]
  omega
theorem frames_le (ls : List (List UInt8)) (h : ls.length + fln ls ≤ 65536) : (frames ls).length ≤ 1000000 := by
  have h1 := frames_length ls (by unfold fln at h; omega)
  unfold fln at h
  unfold roomC at h1
  omega
theorem fln_append (a b : List (List UInt8)) : fln (a ++ b) = fln a + fln b := by simp [fln]
theorem mem_fln {ls : List (List UInt8)} {l : List UInt8} (h : l ∈ ls) : l.length ≤ fln ls := by
  obtain ⟨k, hk, rfl⟩ := List.mem_iff_getElem.1 h
  exact flat_mem ls k _ (List.getElem?_eq_getElem hk)

set_option maxRecDepth 100000 in
set_option maxHeartbeats 4000000 in
theorem keeps_any (W : World) (hT : Tb W) (v0 : Value) (xs : List WAct) (rd0 : RdK W (fun _ => False) v0 xs) (hfit : ∀ x ∈ xs, FitK x) (hxl : xs.length ≤ 1048576) (v1 : Value) (ps : List Int) (rd1 : RdV W (fun _ => False) v1 (ps.map (Value.int .i64))) (hps : ∀ p ∈ ps, -9223372036854775808 ≤ p ∧ p ≤ 9223372036854775807) :
    Calls Tryz.prog 3 #[v0, v1] W fun e W' => e = .returned (.bool true) ∧ Below W.heap.size W W' := by
  have hlog : isLog [119] = true := by decide +kernel
  have HT := Lib.hid hT
  have HR0 := Lib.hid rd0
  have HR1 := Lib.hid rd1
  have HPs := Lib.hid hps
  have HFit := Lib.hid hfit
  have HK := Lib.hid (known_any W hT)
  obtain ⟨p0, cap0, rfl, hlc0, hl470, hcm0⟩ := rd0.form
  obtain ⟨p1, cap1, rfl, hlc1, hl471, hcm1, _⟩ := rd1
  rw [List.length_map] at *
  clear hT hps hfit rd0
  go_enter Tryz.func3, Tryz.ntmps3
  go_wp2_with (go_at_call 6; refine HK.out.mono ?_; rintro e w1 ⟨rfl, hb1⟩; refine Hid.out ?_)
  have HB1 := Lib.hid hb1
  have HT1 := Lib.hid (HT.out.below hb1)
  have HFew : ∀ r, (decide (xs.length ≤ 300) && decide (cntX xs ≤ 65536)) = r → Hid (Calls Tryz.prog 7 #[.slice p0 xs.length cap0] w1 fun e w' => e = .returned (.bool r) ∧ Below w1.heap.size w1 w') := fun r hr => Lib.hid ((few_any w1 _ _ xs (HR0.out.lift hb1) HFit.out hxl r hr).mono fun e w' ⟨he, n, hw⟩ => ⟨he, by rw [hw]; exact below_drewN (Below.refl _ _) n⟩)
  clear hb1 HK
  refine Lib.hid ?_
  by_cases hfw : (decide (xs.length ≤ 300) && decide (cntX xs ≤ 65536)) = false
  · have HF := HFew _ hfw
    go_wp2_with (go_at_call 7; refine HF.out.mono ?_; rintro e w2 ⟨rfl, hb2⟩; have HB2 := Lib.hid hb2; clear hb2)
    go_ret
    exact ⟨rfl, HB1.out.trans (HB2.out.mono HB1.out.size)⟩
  have hfw2 : (decide (xs.length ≤ 300) && decide (cntX xs ≤ 65536)) = true := by simpa using hfw
  have HF := HFew _ hfw2
  have h300 : xs.length ≤ 300 := by simp at hfw2; omega
  have h64 : cntX xs ≤ 65536 := by simp at hfw2; omega
  clear hfw hfw2 HFew
  go_wp2_with (go_at_call 7; refine HF.out.mono ?_; rintro e w0 ⟨rfl, hb2⟩; refine Hid.out ?_)
  have HT2 := Lib.hid (HT1.out.below hb2)
  have HB2 := Lib.hid (HB1.out.trans (hb2.mono HB1.out.size))
  clear HT1 HB1 hb2 HF
  refine Lib.hid ?_
  by_cases hp300 : 300 < ps.length
  · have d2 : decide ((300 : Int) < (ps.length : Int)) = true := by simp; omega
    go_wp2_with fail
    go_ret
    exact ⟨rfl, HB2.out⟩
  have d2 : decide ((300 : Int) < (ps.length : Int)) = false := by simp; omega
  have HNew := Lib.hid (new_any w0 16777216 (by omega) (by omega))
  go_wp2_with (go_at_call 8; refine HNew.out.mono ?_; rintro e w2 ⟨rfl, hd, hb⟩; refine Hid.out ?_)
  have D2 := Lib.hid (Ds.new HT2.out hd hb)
  have hz1 := HB2.out.size
  have hz2 := hb.size
  clear hd hb HNew
  generalize (fun k => w0.heap.size ≤ k ∧ k < w2.heap.size) = S2 at D2
  have hdb : Hid (W.heap.size ≤ w0.heap.size) := Lib.hid hz1
  generalize hdbe : w0.heap.size = db at *
  have HO := Lib.hid (open_new w2 S2 db [119] _ D2.out.dn D2.out.tb 0 hlog rfl (by omega))
  refine Lib.hid ?_
  go_wp2_with (go_at_call 9; refine HO.out.mono ?_; rintro e w3 ⟨v3, lb, rfl, hlb, S3, hrow, hl3⟩; refine Hid.out ?_)
  obtain ⟨p3, c3, rfl⟩ : ∃ p cap, v3 = .slice p 0 cap := by
    obtain ⟨p, c, e, _⟩ := hrow.shape
    exact ⟨p, c, e⟩
  have L3 := Lib.hid (D2.out.log hl3)
  have hlb1 : Hid (w0.heap.size ≤ lb) := Lib.hid (by omega)
  clear hrow hl3 HO hlb hz2
  generalize hDD : Dsk.mk 16777216 [] 0 = D at *
  have hDs : D.size = 16777216 := by rw [← hDD]
  have HDs := Lib.hid hDs
  clear hDD hDs
  refine Lib.hid ?_
  have hW3 : 3 ≤ w0.heap.size := HT2.out.size
  rw [← hdbe] at hdb
  go_wp2_with fail
  go_loopw [10, 11, 12] (fun v y i wr => ∃ k sy : Nat, k ≤ xs.length ∧ i = .int .i64 (k : Int) ∧ y = .int .i64 (sy : Int) ∧ Hid (KpR w0 lb db D xs k v sy wr)) (fun _ _ i _ => xs.length - (intOf i).toNat)
  case atStart => exact ⟨0, 0, by omega, rfl, rfl, Lib.hid ⟨S3, [], [], 0, L3.out, RowW.nil _ _ _, by simp, by simp, by simp, by simp [fln]⟩⟩
  case round =>
    obtain ⟨k, sy, hk, rfl, rfl, HI⟩ := hrel
    obtain ⟨S, old, cur, s, hLs, hRow, hs, hsy, hol, hcn⟩ := HI.out
    have HLs := Lib.hid hLs
    have HSy0 := Lib.hid hsy
    have HB := Lib.hid (HB2.out.trans (hLs.bw.mono hdb.out))
    have hck := cntX_take xs k
    have HSum := Lib.hid (frames_sum old cur)
    have HFs := Lib.hid (frames_le (old.flatten ++ cur) (by omega))
    have hup : Hid (∀ j, Ol S lb j → w0.heap.size ≤ j) := Lib.hid fun j hj => hj.elim (hLs.up j) fun e => by have := hlb1.out; omega
    obtain ⟨A, hAe⟩ : ∃ A, (old.flatten ++ cur).length = A := ⟨_, rfl⟩
    obtain ⟨pa, ca, rfl, hca, hcm⟩ : ∃ p c, u10 = .slice p A c ∧ A ≤ c ∧ c ≤ 9223372036854775807 := by
      obtain ⟨p, c, e, h1, h2⟩ := hRow.shape
      exact ⟨p, c, by rw [e, hAe], by omega, h2⟩
    have HRow := Lib.hid hRow
    have HAe := Lib.hid hAe
    rw [hAe] at hcn
    have hSl : Hid (¬ Ol S lb wr.heap.size) := Lib.hid fun hs => hs.elim (hLs.lg.dn.out (Nat.le_refl _)) fun e => by have := hLs.lg.log.lt; omega
    clear hLs hRow HI hsy hAe
    by_cases hlt : k < xs.length
    · obtain ⟨b, off, lv, pp, pc, rfl, hb, hS, hA, d0, d1, d2c, d3⟩ := (HR0.out.lift HB.out).at_ (List.getElem?_eq_getElem hlt)
      have HSn := Lib.hid (cntX_snoc xs k hlt)
      have HSt := cntX_take xs (k + 1)
      have hfx := HFit.out xs[k] (List.getElem_mem hlt)
      rw [HSn.out] at HSt
      generalize xs[k] = x at *
      have HA := Lib.hid hA
      have HX := Lib.hid hfx
      have hx0 := hfx.op
      have e2 : cntA x = x.l.length + x.np + fln x.l := rfl
      obtain ⟨pl, cl, rfl, hl1, hl2, hl3⟩ := hA.shape
      clear hA hfx d1 d3
      by_cases o1 : x.op = 1
      · have q1 : (x.op == 1) = true := by simp [o1]
        have HAp := Lib.hid (append_lf wr S lb db [119] D 0 old (frames cur) _ HLs.out.lg hlog (by omega) _ x.l HA.out.rdl (fun l hl => by have := mem_fln hl; have := HX.out.fl; omega) (by unfold roomC; unfold fln at *; omega) (by
          have h1 := HSum.out
          have h2 := HFs.out
          have h3 := frames_le x.l (by omega)
          have h4 := HDs.out
          omega))
        go_wp2_with (go_at_call 10; refine HAp.out.mono ?_; rintro e w4 ⟨rfl, S4, hl4⟩; refine Hid.out ?_)
        rw [← frames_append] at hl4
        have hfr := hl4.fr
        have hk4 := hfr.block b hb fun hs => hS (by have := HLs.out.up b hs; have := hdb.out; omega)
        have c2b := (World.cell?_of_block hk4).trans d2c
        have hOl : Fr (Ol S lb) wr w4 := hfr.mono fun _ _ hs => .inl hs
        have R4 := Lib.hid (HRow.out.step hOl (Ol.nx hl4.nx))
        have W4 := Lib.hid (HA.out.step (T := Ex (Ol S4 lb) (.slice pa A ca)) (hfr.mono fun j _ hs => by have := HLs.out.up j hs; have := hdb.out; omega) (fun j hj ht => by
          have := hdb.out
          rcases ht with ht | ht
          · rcases Ol.nx hl4.nx j ht with h | h
            · have := hup.out j h
              omega
            · omega
          · have := (HRow.out.own j ht).1
            omega))
        have L4 := Lib.hid (HLs.out.next hl4)
        have hsl4 : ¬ Ol S4 lb w4.heap.size := fun hs => hs.elim (hl4.dn.out (Nat.le_refl _)) fun e => by have := hl4.log.lt; omega
        have hz4 := L4.out.bw.size
        clear hfr hk4 hOl hl4 HAp d2c d0
        refine Lib.hid ?_
        go_wp2_with (at_builtin; refine wpList_append_w rfl _ _ rfl (Ol S4 lb) w0.heap.size _ _ (old.flatten ++ cur) x.l rfl R4.out rfl W4.out hsl4 (by rw [HAe.out]; omega) hz4 ?_; intro v' w7 hown7 hb7 hg7; have HO7 := Lib.hid hown7; have HG7 := Lib.hid hg7; clear hown7 hg7 hb7)
        go_roundw
        case rel =>
          refine ⟨k + 1, sy, by omega, by go_num, rfl, Lib.hid ⟨S4, old, cur ++ x.l, s, ?_, ?_, by simp; omega, HSy0.out, by omega, ?_⟩⟩
          · rw [List.take_append_of_le_length hs]
            exact L4.out.row hW3 HG7.out fun j hj => ⟨(R4.out.own j hj).1, fun h => (R4.out.own j hj).2.2 (.inl h), fun h => (R4.out.own j hj).2.2 (.inr h)⟩
          · rw [← List.append_assoc]
            exact HO7.out
          · rw [HSn.out, ← List.append_assoc, fln_append, List.length_append, HAe.out]
            omega
        case measure => simp [intOf]; omega
      · have q1 : (x.op == 1) = false := by simp [o1]
        by_cases o2 : x.op = 2
        · have q2 : (x.op == 2) = true := by simp [o2]
          have HSy := Lib.hid (sync_lf wr S lb db [119] D 0 old (frames cur) _ HLs.out.lg hlog (by omega))
          go_wp2_with (go_at_call 11; refine HSy.out.mono ?_; rintro e w4 ⟨rfl, S4, hl4⟩; have HL4 := Lib.hid hl4; clear hl4)
          go_roundw
          case rel =>
            refine ⟨k + 1, A, by omega, by go_num, rfl, Lib.hid ⟨S4, old, cur, cur.length, ?_, HRow.out.step (HL4.out.fr.mono fun _ _ hs => .inl hs) (Ol.nx HL4.out.nx), Nat.le_refl _, by rw [← HAe.out, List.length_append], by omega, by rw [HSn.out, HAe.out]; omega⟩⟩
            rw [List.take_length]
            exact HLs.out.next HL4.out
          case measure => simp [intOf]; omega
        · have q2 : (x.op == 2) = false := by simp [o2]
          by_cases o3 : x.op = 3
          · have q3 : (x.op == 3) = true := by simp [o3]
            have HRo := Lib.hid (rotate_lf wr S lb db [119] D 0 old cur _ HLs.out.lg hlog (by omega))
            go_wp2_with (go_at_call 12; refine HRo.out.mono ?_; rintro e w8 ⟨rfl, hf8, S8, hx8, hl8⟩; have F8 := Lib.hid hf8; have X8 := Lib.hid hx8; have G8 := Lib.hid hl8; clear hf8 hx8 hl8)
            go_roundw
            case rel =>
              have e8 : (old ++ [cur]).flatten ++ [] = old.flatten ++ cur := by simp
              refine ⟨k + 1, A, by omega, by go_num, rfl, Lib.hid ⟨S8, old ++ [cur], [], 0, ?_, ?_, by simp, by rw [← HAe.out, ← e8, List.append_nil]; simp, by simp; omega, by rw [e8, HSn.out, HAe.out]; omega⟩⟩
              · exact HLs.out.rot' hlb1.out F8.out X8.out G8.out
              · rw [e8]
                exact HRow.out.step F8.out (Ol.nx X8.out)
            case measure => simp [intOf]; omega
          · have q3 : (x.op == 3) = false := by simp [o3]
            go_wp2_with fail
            go_roundw
            case rel => exact ⟨k + 1, sy, by omega, by go_num, rfl, Lib.hid ⟨S, old, cur, s, HLs.out, HRow.out, hs, HSy0.out, by omega, by rw [HSn.out, HAe.out]; omega⟩⟩
            case measure => simp [intOf]; omega
    · have hk2 : k = xs.length := by omega
      subst hk2
      rw [List.take_length] at hcn
      have hA2 := HAe.out
      have hsy := HSy0.out
      have hmax : 0 + old.length ≤ 999996 := by omega
      have hp1 : RdV wr S (.slice p1 ps.length cap1) (ps.map (Value.int .i64)) := HR1.out.step (Fr.of_new HB.out (fun _ => False)) (fun j hj hs => by have := HLs.out.up j hs; have := hdb.out; omega)
      obtain ⟨n, hn⟩ : ∃ n, left (frames cur) (frames (cur.take s)).length (ps.getD old.length 0) = n := ⟨_, rfl⟩
      have hy := frames_take_le cur s
      have hn1 : n ≤ (frames cur).length := by rw [← hn]; exact left_le _ _ _ hy
      have hn2 : (frames (cur.take s)).length ≤ n := by rw [← hn]; exact left_ge _ _ _
      have hcr := crash_lf wr S db [119] D 0 old (frames cur) _ HLs.out.ds.dn hy hmax _ ps hp1 HPs.out
      rw [hn] at hcr
      have HC := Lib.hid hcr
      have hm1 : Hid (∀ l ∈ old.flatten ++ cur, l.length ≤ 67108864) := Lib.hid fun l hl => by have := mem_fln hl; omega
      have HSz : Hid ((old.map fun ls => (frames ls).length).sum + 2 * (frames cur).length ≤ D.size) := Lib.hid (by
        have h1 := HSum.out
        have h2 := HFs.out
        have h3 := HDs.out
        omega)
      rw [List.length_append] at hA2
      have HA2 := Lib.hid hA2
      have HSy := Lib.hid hsy
      have hA64 : A ≤ 65536 := by omega
      clear hcr hp1 hcn hlt hk hck hA2 hsy
      go_wp2_with (go_at_call 13; refine HC.out.mono ?_; rintro e w8 ⟨rfl, hfr, S8, hx, hd⟩; refine Hid.out ?_)
      have D8 := Lib.hid (HLs.out.ds.next hd hfr hx)
      have R8 := Lib.hid (HRow.out.step (hfr.mono fun _ _ hs => .inl hs) (Ol.nx hx))
      have hO := open_log w8 S8 db [119] D 0 old cur n n D8.out.dn D8.out.tb hlog hn1 hmax (fun x hx l hl => hm1.out l (List.mem_append_left _ (List.mem_flatten.2 ⟨x, hx, hl⟩))) (fun l hl => hm1.out l (List.mem_append_right _ hl)) HSz.out (by have := HA2.out; omega)
      obtain ⟨hw1, hw2, hw3⟩ := wh_frames cur n
      have hw4 := wh_ge cur n s hs hn2
      generalize (wh cur n).1 = m at *
      rw [hw2] at hw3
      have HO := Lib.hid hO
      clear hO hfr hx hd HC hw2 HRow HLs HR1 hup hSl hn hn2
      refine Lib.hid ?_
      go_wp2_with (go_at_call 9; refine HO.out.mono ?_; rintro e w9 ⟨v9, lb9, rfl, _, S9, hrow, hl9⟩; refine Hid.out ?_)
      have L9 := Lib.hid (D8.out.log hl9)
      have R9 := R8.out.step (hl9.fr.mono fun _ _ hs => .inl hs) (Ol.nx hl9.nx)
      obtain ⟨P, hP⟩ : ∃ P, old.flatten.length + m = P := ⟨_, rfl⟩
      have hlen9 : (old.flatten ++ cur.take m).length = P := by rw [List.length_append, List.length_take]; omega
      have HL9 := Lib.hid hlen9
      obtain ⟨p9, c9, rfl⟩ : ∃ p c, v9 = .slice p P c := by
        obtain ⟨p, c, e, _⟩ := hrow.shape
        exact ⟨p, c, by rw [e, hlen9]⟩
      have hPA : P ≤ A := by have := HA2.out; omega
      have hYP : sy ≤ P := by have := HSy.out; omega
      have hrl := R9.rdl (by rw [HAe.out]; omega)
      rw [← HAe.out] at hrl
      have hal := hrl.take (n := P) (by rw [HAe.out]; exact hPA)
      have htk : (old.flatten ++ cur).take P = old.flatten ++ cur.take m := by
        rw [List.take_append, List.take_of_length_le (by omega), show P - old.flatten.length = m by omega]
      rw [htk] at hal
      have HSame := Lib.hid ((same_rows w9 _ _ _ _ _ (hrow.rdl (by omega)) hal).mono fun e w' ⟨he, n, hw⟩ => show e = Ending.returned (.bool true) ∧ Hid (Below w9.heap.size w9 w') from ⟨he, Lib.hid (by rw [hw]; exact below_drewN (Below.refl _ _) n)⟩)
      have HRow9 := Lib.hid hrow
      clear hrow hl9 HO R9 R8 D8 hal htk hrl hlen9 hP
      refine Lib.hid ?_
      have t1 : decide ((P : Int) < (sy : Int)) = false := by simp; omega
      have t2 : decide ((A : Int) < (P : Int)) = false := by simp; omega
      have hPc : P ≤ ca := by omega
      go_wp2_with (go_at_call 14; refine HSame.out.mono ?_; rintro e w10 ⟨rfl, HB10⟩; refine Hid.out ?_)
      have L10 := Lib.hid (L9.out.below HB10.out)
      have D10 := L10.out.ds
      rw [← List.take_length (l := frames (cur.take m))] at D10
      have hO2 := open_log w10 S9 db [119] D 0 old (cur.take m) _ _ D10.dn D10.tb hlog (Nat.le_refl _) hmax (fun x hx l hl => hm1.out l (List.mem_append_left _ (List.mem_flatten.2 ⟨x, hx, hl⟩))) (fun l hl => hm1.out l (List.mem_append_right _ (List.mem_of_mem_take hl))) (by have := HSz.out; omega) (by have := HA2.out; rw [List.length_take]; omega)
      rw [wh_whole, List.take_length] at hO2
      have HO2 := Lib.hid hO2
      clear hO2 L9 HSame t1 t2
      refine Lib.hid ?_
      go_wp2_with (go_at_call 9; refine HO2.out.mono ?_; rintro e w12 ⟨v12, lb12, rfl, _, S12, hrow2, hl12⟩; refine Hid.out ?_)
      have L12 := Lib.hid (D10.log hl12)
      obtain ⟨p12, c12, rfl⟩ : ∃ p c, v12 = .slice p P c := by
        obtain ⟨p, c, e, _⟩ := hrow2.shape
        exact ⟨p, c, by rw [e, HL9.out]⟩
      have R12 := (HRow9.out.below HB10.out).step hl12.fr hl12.nx
      have HSame := Lib.hid (same_rows w12 _ _ _ _ _ (R12.rdl (by rw [HL9.out]; omega)) (hrow2.rdl (by rw [HL9.out]; omega)))
      clear hrow2 hl12 HO2 R12 HRow9 D10
      refine Lib.hid ?_
      go_wp2_with (go_at_call 14; refine HSame.out.mono ?_; rintro e w13 ⟨rfl, n, rfl⟩)
      go_ret
      exact ⟨rfl, below_drewN (HB2.out.trans (L12.out.bw.mono hdb.out)) _⟩
end Go.Proofs.YtlbfgkocpjlamaaGreatDoor
