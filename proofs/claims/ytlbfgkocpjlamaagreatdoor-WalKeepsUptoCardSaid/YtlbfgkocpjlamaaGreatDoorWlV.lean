/-
  The walk over glacierlaw4.WalTorn: for any payloads, any cut and any more bytes the answer is true, and no memory that was there is changed.
-/
import Derived.Test.YtlbfgkocpjlamaaGreatDoorWlH
import Derived.Deep.CutBlock
import Derived.BigQuiet
import Derived.Deep.QuietTactic
namespace Go.Proofs.YtlbfgkocpjlamaaGreatDoor
open Go.RowKit

theorem frames_small : ∀ (ls : List (List UInt8)) (m : Nat), m ≤ 1000000 → (∀ l ∈ ls, l.length ≤ m) → (frames ls).length ≤ ls.length * (m + 14)
  | [], _, _, _ => by simp [frames]
  | l :: r, m, hm, h => by
    have h1 := frames_small r m hm fun x hx => h x (by simp [hx])
    have h2 := h l (by simp)
    have h3 := frame_length l (by omega)
    rw [frames_cons, List.length_append, List.length_cons, Nat.add_mul]
    omega
theorem flat_small : ∀ (ls : List (List UInt8)) (m : Nat), (∀ l ∈ ls, l.length ≤ m) → ls.flatten.length ≤ ls.length * m
  | [], _, _ => by simp
  | l :: r, m, h => by
    have h1 := flat_small r m fun x hx => h x (by simp [hx])
    have h2 := h l (by simp)
    rw [List.flatten_cons, List.length_append, List.length_cons, Nat.add_mul]
    omega
theorem frames_take_snoc (ls : List (List UInt8)) (k : Nat) (h : k < ls.length) : frames (ls.take (k + 1)) = frames (ls.take k) ++ frames [ls[k]] := by
  rw [take_snoc ls k _ (List.getElem?_eq_getElem h), frames_append]
/-- Where the first payloads' frames end. -/
def endsOf (ls : List (List UInt8)) (k : Nat) : List Value := (List.range k).map fun j => nv (frames (ls.take (j + 1))).length
theorem ends_snoc (ls : List (List UInt8)) (k : Nat) : endsOf ls (k + 1) = endsOf ls k ++ [nv (frames (ls.take (k + 1))).length] := by
  unfold endsOf
  rw [List.range_succ, List.map_append]
  rfl
theorem ends_length (ls : List (List UInt8)) (k : Nat) : (endsOf ls k).length = k := by simp [endsOf]
theorem ends_at (ls : List (List UInt8)) (n k : Nat) (h : k < n) : (endsOf ls n)[k]? = some (nv (frames (ls.take (k + 1))).length) := by
  unfold endsOf
  rw [List.getElem?_map, List.getElem?_range h]
  rfl
theorem RdL.take {w : World} {B n cap : Nat} {p : Option Addr} {ls : List (List UInt8)} (h : RdL w B (.slice p ls.length cap) ls) (hn : n ≤ ls.length) : RdL w B (.slice p n cap) (ls.take n) := by
  obtain ⟨p', cap', e, h1, h2, h3, h4⟩ := h
  injection e with e1 _ e3
  subst e1 e3
  have hl : (ls.take n).length = n := by rw [List.length_take]; omega
  refine ⟨p, cap, by rw [hl], by omega, by omega, h3, fun k l hk => h4 k l ?_⟩
  have hk2 : k < (ls.take n).length := (List.getElem?_eq_some_iff.1 hk).1
  rw [List.getElem?_take_of_lt (by omega)] at hk
  exact hk
theorem RdV.one_i (w : World) (S : Nat → Prop) (x : Int) (hS : ¬ S w.heap.size) : RdV (w.alloc (.cells #[.int .i64 x] 3)) S (.slice (some ⟨w.heap.size, 0, none⟩) 1 1) ([x].map (Value.int .i64)) := RdV.one w S _ _ hS

theorem read_log (w : World) (S : Nat → Prop) (db : Nat) (D : Dsk) (h : Dk w S db D) (s : List UInt8) (hs : s.length ≤ maxLen) (c : List UInt8) (y : Nat) (hn : look s D.files = some ⟨s, c, y⟩) :
    Calls Tryz.prog 15 #[.pointer (some ⟨db, 0, none⟩), .string ⟨s.toArray⟩] w fun e w' => ∃ p cap, e = .returned (.tuple #[.slice p c.length cap, .int .i64 0]) ∧ Below w.heap.size w w' :=
  (read_some w S db D h s hs _ hn).mono fun e w' ⟨v, he, ho, hb⟩ => by
    obtain ⟨p, cap, rfl, _⟩ := ho.form
    exact ⟨p, cap, he, hb⟩
theorem Ls.row {W w w' : World} {S : Nat → Prop} {lb db n : Nat} {nm : List UInt8} {D : Dsk} (h : Ls W lb db n nm S w D) (h3 : 3 ≤ W.heap.size) {row : Option Nat} (hg : w.grownBy w' row) (hr : ∀ k, row = some k → W.heap.size ≤ k ∧ ¬ S k ∧ k ≠ lb) : Ls W lb db n nm S w' D := by
  have hf : Fr (fun k => row = some k) w w' := Fr.grown hg fun _ e => e
  exact ⟨Lg.start (h.lg.log.fr hf fun e => (hr _ e).2.2 rfl) (h.lg.dn.same hf fun k _ hk e => (hr k e).2.1 hk) (h.lg.tb.fr hf fun k e => Nat.le_trans h3 (hr k e).1) h.lg.out, h.bw.grown hg h.bw.size fun k e => (hr k e).1, h.up⟩

set_option maxRecDepth 100000 in
set_option maxHeartbeats 4000000 in
theorem torn_any (W : World) (hT : Tb W) (v0 : Value) (ls : List (List UInt8)) (rd0 : RdL W W.heap.size v0 ls) (a1 : Int) (v2 : Value) (l2 : List UInt8) (rd2 : Rd W W.heap.size v2 l2) :
    Calls Tryz.prog 4 #[v0, .int .i64 a1, v2] W fun e W' => e = .returned (.bool true) ∧ Below W.heap.size W W' := by
  have hlog : isLog [119] = true := by decide +kernel
  have HT := Lib.hid hT
  have HR0 := Lib.hid rd0
  have HR2 := Lib.hid rd2
  have HK := Lib.hid (known_any W hT)
  obtain ⟨p0, cap0, rfl, hlc0, hl470, hcm0, _⟩ := rd0
  obtain ⟨p2, cap2, rfl, hlc2, ⟨hl472, hcm2, _⟩, _⟩ := rd2
  clear hT
  go_enter Tryz.func4, Tryz.ntmps4
  go_wp2_with (go_at_call 6; refine HK.out.mono ?_; rintro e w1 ⟨rfl, hb1⟩; refine Hid.out ?_)
  have HB1 := Lib.hid hb1
  have HT1 := Lib.hid (HT.out.below hb1)
  clear hb1 HK
  refine Lib.hid ?_
  by_cases hmany : 60 < ls.length
  · have d1 : decide ((60 : Int) < (ls.length : Int)) = true := by simp; omega
    go_wp2_with fail
    go_ret
    exact ⟨rfl, HB1.out⟩
  have d1 : decide ((60 : Int) < (ls.length : Int)) = false := by simp; omega
  by_cases hlong : 1000 < l2.length
  · have d2 : decide ((1000 : Int) < (l2.length : Int)) = true := by simp; omega
    go_wp2_with fail
    go_ret
    exact ⟨rfl, HB1.out⟩
  have d2 : decide ((1000 : Int) < (l2.length : Int)) = false := by simp; omega
  have HNew := Lib.hid (new_any w1 16777216 (by omega) (by omega))
  go_wp2_with (go_at_call 8; refine HNew.out.mono ?_; rintro e w2 ⟨rfl, hd, hb⟩; refine Hid.out ?_)
  have D2 := Lib.hid (Ds.new HT1.out hd hb)
  have hz1 := HB1.out.size
  clear hd hb HNew
  generalize (fun k => w1.heap.size ≤ k ∧ k < w2.heap.size) = S2 at D2
  have hdb : Hid (W.heap.size ≤ w1.heap.size) := Lib.hid hz1
  generalize hdbe : w1.heap.size = db at *
  have HO := Lib.hid (open_new w2 S2 db [119] _ D2.out.dn D2.out.tb 5 hlog rfl (by omega))
  refine Lib.hid ?_
  go_wp2_with (go_at_call 9; refine HO.out.mono ?_; rintro e w3 ⟨v3, lb, rfl, hlb, S3, hrow, hl3⟩; refine Hid.out ?_)
  obtain ⟨p3, c3, rfl⟩ : ∃ p cap, v3 = .slice p 0 cap := by
    obtain ⟨p, c, e, _⟩ := hrow.shape
    exact ⟨p, c, e⟩
  have L3 := Lib.hid (D2.out.log hl3)
  clear hrow hl3 HO
  generalize hDD : Dsk.mk 16777216 [] 0 = D at *
  have hDs : D.size = 16777216 := by rw [← hDD]
  have HDs := Lib.hid hDs
  clear hDD hDs
  refine Lib.hid ?_
  have hW3 : 3 ≤ w1.heap.size := HT1.out.size
  rw [← hdbe] at hdb
  go_wp2_with fail
  go_loopw [12, 13] (fun v i wr => ∃ k : Nat, k ≤ ls.length ∧ i = .int .i64 (k : Int) ∧ Hid (∃ S, Ls w1 lb db 5 [119] S wr (logD D [119] 5 [] (frames (ls.take k)) 0) ∧ OwnX wr 3 w1.heap.size v (endsOf ls k) ∧ (∀ j, v.ownBlock = some j → ¬ S j ∧ j ≠ lb) ∧ ∀ l ∈ ls.take k, l.length ≤ 1000)) (fun _ i _ => ls.length - (intOf i).toNat)
  case atStart => exact ⟨0, by omega, rfl, Lib.hid ⟨S3, L3.out, OwnX.nil _ _ _, (fun j hj => by cases hj), fun l hl => by simp at hl⟩⟩
  case round =>
    obtain ⟨k, hk, rfl, HI⟩ := hrel
    obtain ⟨S, hLs, hOx, hOn, hAll⟩ := HI.out
    have HLs := Lib.hid hLs
    have HOx := Lib.hid hOx
    have HOn := Lib.hid hOn
    have HAll := Lib.hid hAll
    have hzr := hLs.bw.size
    have HB := Lib.hid (HB1.out.trans (hLs.bw.mono hdb.out))
    have HRr := Lib.hid (HR0.out.below HB.out)
    clear hLs hOx hOn hAll HI
    by_cases hlt : k < ls.length
    · obtain ⟨b, off, u, rfl, hb, hc, hru⟩ := HRr.out.at_ hlt
      have HSn := Lib.hid (frames_take_snoc ls k hlt)
      have HTs := Lib.hid (take_snoc ls k _ (List.getElem?_eq_getElem hlt))
      have HEs := Lib.hid (ends_snoc ls k)
      have HEl := Lib.hid (ends_length ls k)
      generalize ls[k] = l at *
      obtain ⟨pu, cu, rfl, _⟩ := id hru
      have HRu := Lib.hid hru
      clear hru
      by_cases hl : 1000 < l.length
      · have d3 : decide ((1000 : Int) < (l.length : Int)) = true := by simp; omega
        go_wp2_with fail
        go_ret
        exact ⟨by first | rfl | simp [d3], HB.out⟩
      · have d3 : decide ((1000 : Int) < (l.length : Int)) = false := by simp; omega
        have La := Lib.hid (HLs.out.alloc (.cells #[.slice pu l.length cu] 41))
        have hr1 := RdL.one HRu.out HB.out.size 41
        have HAp := append_lf _ S lb db [119] D 5 [] (frames (ls.take k)) 0 La.out.lg hlog (by simp) _ [l] (hr1.more (by simp)) (by simp; omega) (by simp [roomC]; omega) (by
          have h1 := frames_small (ls.take k) 1000 (by omega) HAll.out
          have h2 := frames_small [l] 1000 (by omega) (by simp; omega)
          have h3 := HDs.out
          simp only [List.length_take, List.length_singleton, List.map_nil, List.sum_nil] at *
          have : min k ls.length * (1000 + 14) ≤ 60 * 1014 := Nat.mul_le_mul (by omega) (by omega)
          omega)
        have HAp := Lib.hid HAp
        clear hr1
        go_wp2_with (go_at_call 10; refine HAp.out.mono ?_; rintro e w4 ⟨rfl, S4, hl4⟩; refine Hid.out ?_)
        rw [← HSn.out] at hl4
        have hza : wr.heap.size ≤ (wr.alloc (.cells #[.slice pu l.length cu] 41)).heap.size := by simp
        have HO4 := Lib.hid ((HOx.out.alloc (.cells #[.slice pu l.length cu] 41)).fr hl4.fr fun j hj => (HOn.out j hj).1)
        have HN4 : Hid (∀ j, u12.ownBlock = some j → ¬ S4 j ∧ j ≠ lb) := Lib.hid fun j hj => ⟨hl4.nx.old (Nat.lt_of_lt_of_le (HOx.out.lt j hj).2 hza) (HOn.out j hj).1, (HOn.out j hj).2⟩
        have L4 := Lib.hid (La.out.next hl4)
        have HSeg := Lib.hid (seg_any [119] 5 (by omega) (by simp) w4 L4.out.lg.tb.pow)
        clear hl4 hza HAp La
        refine Lib.hid ?_
        go_wp2_with (go_at_call 16; refine HSeg.out.mono ?_; rintro e w5 ⟨rfl, hb5⟩; refine Hid.out ?_)
        have L5 := Lib.hid (L4.out.below hb5)
        have HO5 := Lib.hid (HO4.out.below hb5)
        have hlk := logD_look (D := D) (nm := [119]) (first := 5) (old := []) (c := frames (ls.take (k + 1))) (y := 0) (by simp)
        simp only [List.length_nil, Nat.add_zero] at hlk
        have HRead := Lib.hid (read_log w5 S4 db _ L5.out.lg.dn.dk (segName [119] 5) (by rw [seg_length]; unfold maxLen; simp) _ _ hlk)
        have HFl : Hid ((frames (ls.take (k + 1))).length ≤ 100000) := Lib.hid (by
          have h1 := frames_small (ls.take (k + 1)) 1000 (by omega) (fun x hx => by
            rw [HTs.out] at hx
            rcases List.mem_append.1 hx with hx | hx
            · exact HAll.out x hx
            · obtain rfl := List.mem_singleton.1 hx
              omega)
          have h2 : (ls.take (k + 1)).length * (1000 + 14) ≤ 60 * 1014 := Nat.mul_le_mul (by simp; omega) (by omega)
          omega)
        clear hb5 hlk HSeg L4 HO4
        refine Lib.hid ?_
        go_wp2_with (go_at_call 15; refine HRead.out.mono ?_; rintro e w6 ⟨p6, c6, rfl, hb6⟩; refine Hid.out ?_)
        have L6 := Lib.hid (L5.out.below hb6)
        have HO6 := Lib.hid (HO5.out.below hb6)
        have hz6 := L6.out.bw.size
        have HO1 := Lib.hid (RdV.one w6 (fun _ => False) (nv (frames (ls.take (k + 1))).length) 3 (fun hf => hf))
        generalize hF : (frames (ls.take (k + 1))).length = F at *
        clear hb6 HRead L5 HO5 hF
        refine Lib.hid ?_
        go_wp2_with (at_builtin; refine wpList_append_x Tryz.underlying23 infoInt rfl rfl _ _ rfl w1.heap.size _ _ (endsOf ls k) [nv F] (fun _ => False) rfl (HO6.out.alloc _) rfl HO1.out (by simp [nv, Value.oneCell']) (by have := HEl.out; simp; omega) (by omega) (by simp; omega) ?_; intro v' w7 hown7 hg7 hat7; have HOW := Lib.hid hown7; have HG7 := Lib.hid hg7; have HAT := Lib.hid hat7; clear hown7 hg7 hat7)
        go_roundw
        case rel =>
          refine ⟨k + 1, by omega, by go_num, Lib.hid ⟨S4, ?_, ?_, fun j hj => ?_, fun x hx => ?_⟩⟩
          · exact (L6.out.alloc _).row hW3 HG7.out fun j hj => ⟨(HO6.out.lt j hj).1, (HN4.out j hj).1, (HN4.out j hj).2⟩
          · rw [HEs.out]
            exact HOW.out
          · rcases HAT.out with e | e
            · rw [e] at hj
              exact HN4.out j hj
            · rw [e] at hj
              obtain rfl : _ = j := Option.some.inj hj
              have h1 := L6.out.lg.log.lt
              refine ⟨fun hs => ?_, by simp; omega⟩
              have h2 := L6.out.lg.dn.hi _ hs
              rw [World.size_alloc] at h2
              omega
          · rw [HTs.out] at hx
            rcases List.mem_append.1 hx with hx | hx
            · exact HAll.out x hx
            · obtain rfl := List.mem_singleton.1 hx
              omega
        case measure => simp [intOf]; omega
    · obtain rfl : k = ls.length := by omega
      rw [List.take_length] at HAll HLs
      have hlk := logD_look (D := D) (nm := [119]) (first := 5) (old := []) (c := frames ls) (y := 0) (by simp)
      simp only [List.length_nil, Nat.add_zero] at hlk
      have HLk := Lib.hid hlk
      have HFl : Hid ((frames ls).length ≤ 100000) := Lib.hid (by
        have h1 := frames_small ls 1000 (by omega) HAll.out
        have h2 : ls.length * (1000 + 14) ≤ 60 * 1014 := Nat.mul_le_mul (by omega) (by omega)
        omega)
      have HSeg := Lib.hid (seg_any [119] 5 (by omega) (by simp) wr HLs.out.lg.tb.pow)
      clear hlk hlt hk
      go_wp2_with (go_at_call 16; refine HSeg.out.mono ?_; rintro e w5 ⟨rfl, hb5⟩; refine Hid.out ?_)
      have L5 := Lib.hid (HLs.out.below hb5)
      have HO5 := Lib.hid (HOx.out.below hb5)
      have HRead := Lib.hid (read_log w5 S db _ L5.out.lg.dn.dk (segName [119] 5) (by rw [seg_length]; unfold maxLen; simp) _ _ HLk.out)
      clear hb5 HSeg
      refine Lib.hid ?_
      go_wp2_with (go_at_call 15; refine HRead.out.mono ?_; rintro e w6 ⟨p6, c6, rfl, hb6⟩; refine Hid.out ?_)
      have L6 := Lib.hid (L5.out.below hb6)
      have HO6 := Lib.hid (HO5.out.below hb6)
      clear hb6 HRead L5 HO5
      have hFl := HFl.out
      generalize hL : (frames ls).length = L at *
      have HL := Lib.hid hL
      clear hL
      refine Lib.hid ?_
      obtain ⟨T, hT⟩ : ∃ T : Int, a1.tmod ((L : Int) + 1) = T := ⟨_, rfl⟩
      have ht1 : T < (L : Int) + 1 := by rw [← hT]; exact Int.tmod_lt_of_pos _ (by omega)
      have ht2 : -((L : Int) + 1) < T := by rw [← hT]; exact Int.lt_tmod_of_pos _ (by omega)
      have HRest : Hid (∀ c : Nat, c ≤ L → Calls Tryz.prog 13 #[.pointer (some ⟨db, 0, none⟩), .slice (some ⟨w6.heap.size, 0, none⟩) 1 1] (w6.alloc (.cells #[.int .i64 (c : Int)] 3)) fun e w' => e = .returned (.tuple #[]) ∧ Hid (∃ S', Ds w1 db S' w' (logD D [119] 5 [] ((frames ls).take c) c) ∧ Fr S (w6.alloc (.cells #[.int .i64 (c : Int)] 3)) w' ∧ Nx S S' (w6.alloc (.cells #[.int .i64 (c : Int)] 3)))) := Lib.hid fun c hc => by
        have hd := (L6.out.alloc (.cells #[.int .i64 (c : Int)] 3)).ds
        have hcr := crash_lf _ S db [119] D 5 [] (frames ls) 0 hd.dn (by omega) (by simp) _ [(c : Int)] (RdV.one_i w6 S (c : Int) (L6.out.lg.dn.out (Nat.le_refl _))) (by simp; omega)
        have hlf : left (frames ls) 0 (([(c : Int)] : List Int).getD ([] : List (List (List UInt8))).length 0) = c := by
          simp only [left, kept, List.length_nil, List.getD_cons_zero, HL.out]
          split
          · omega
          · rw [show ((c : Int)).toNat = c by omega, Nat.mod_eq_of_lt (by omega)]
            omega
        rw [hlf] at hcr
        exact hcr.mono fun e w' ⟨he, hfr, S', hx, hd'⟩ => ⟨he, Lib.hid ⟨S', hd.next hd' hfr hx, hfr, hx⟩⟩
      go_upto_if 103 with (fail)
      go_cut [1] (fun a wx => ∃ c : Nat, a = .int .i64 (c : Int) ∧ c ≤ L ∧ wx = w6)
      case first =>
        have hsplit : (∃ c : Nat, T = -(c : Int) ∧ 0 < c ∧ c ≤ L) ∨ ∃ c : Nat, T = (c : Int) ∧ c ≤ L := by
          by_cases hn : T < 0
          · exact .inl ⟨T.natAbs, by omega, by omega, by omega⟩
          · exact .inr ⟨T.natAbs, by omega, by omega⟩
        rcases hsplit with ⟨c, rfl, hc0, hcL⟩ | ⟨c, rfl, hcL⟩
        all_goals
          go_wp2_with fail
          go_meet
          exact ⟨c, by go_num, hcL, rfl⟩
      case rest =>
        obtain ⟨c, rfl, hcL, rfl⟩ := hcut
        have HC := Lib.hid (HRest.out c hcL)
        go_wp2_with (go_at_call 13; refine HC.out.mono ?_; rintro e w8 ⟨rfl, hz⟩; refine Hid.out ?_)
        obtain ⟨S8, hd8, hfr8, hx8⟩ := hz.out
        have HO8 := Lib.hid ((HO6.out.alloc (.cells #[.int .i64 (c : Int)] 3)).fr hfr8 fun j hj => (HOn.out j hj).1)
        have D8 := Lib.hid hd8
        obtain ⟨q, cq, rfl, _⟩ := HO8.out.shape
        rw [ends_length] at *
        have HR8 := Lib.hid (HO8.out.rdv (S := fun _ => False) (by rw [ends_length]; omega) (fun _ _ hf => hf))
        clear hz hd8 hfr8 hx8 HC HRest
        refine Lib.hid ?_
        go_upto_block 2 with (fail)
        go_cut [18] (fun a wx => ∃ k : Nat, k ≤ ls.length ∧ a = .int .i64 (k : Int) ∧ wx = w8 ∧ Hid ((wh ls c).1 = k))
        case first =>
          go_wp2_with fail
          go_loop [18] (fun i => ∃ k : Nat, k ≤ ls.length ∧ i = .int .i64 (k : Int) ∧ Hid ((frames (ls.take k)).length ≤ c ∧ wh ls c = (k + (wh (ls.drop k) (c - (frames (ls.take k)).length)).1, (frames (ls.take k)).length + (wh (ls.drop k) (c - (frames (ls.take k)).length)).2))) (fun i => ls.length - (intOf i).toNat)
          case atStart => exact ⟨0, by omega, rfl, Lib.hid ⟨by simp [frames], by simp [frames]⟩⟩
          case round =>
            obtain ⟨k, hk, rfl, HI⟩ := hrel
            by_cases hlt : k < ls.length
            · obtain ⟨b9, off9, rfl, hb9, _, hc9⟩ := HR8.out.atv (ends_at ls ls.length k hlt)
              change w8.cell? ⟨b9, off9 + k, none⟩ = some (.int .i64 ((frames (ls.take (k + 1))).length : Int)) at hc9
              have hsn : (frames (ls.take (k + 1))).length = (frames (ls.take k)).length + (frame ls[k]).length := by
                rw [frames_take_snoc ls k hlt, List.length_append]
                simp [frames]
              have HSn := Lib.hid hsn
              have HGet := Lib.hid (List.getElem?_eq_getElem hlt)
              generalize hF : (frames (ls.take (k + 1))).length = F at *
              clear hsn
              by_cases hle : F ≤ c
              · go_wp2_with fail
                go_round
                case rel =>
                  have hst := wh_step ls k c _ _ HGet.out (by have := HSn.out; omega) HI.out.2
                  have hs2 := HSn.out
                  exact ⟨k + 1, by omega, by go_num, Lib.hid ⟨by omega, by rw [hF, hs2]; exact hst⟩⟩
                case measure => simp [intOf]; omega
              · go_wp2_with fail
                go_meet
                have hst := wh_stop ls k c _ HI.out.2 (.inr ⟨_, HGet.out, by have := HSn.out; omega⟩)
                exact ⟨k, hk, rfl, rfl, Lib.hid (by rw [hst])⟩
            · go_wp2_with fail
              go_meet
              have hst := wh_stop ls k c _ HI.out.2 (.inl (by omega))
              exact ⟨k, hk, rfl, rfl, Lib.hid (by rw [hst])⟩
        case rest =>
          obtain ⟨k, hk, rfl, rfl, HW⟩ := hcut
          have htk : (ls.take k).length = k := by rw [List.length_take]; omega
          have hall := HAll.out
          have hallk : ∀ l ∈ ls.take k, l.length ≤ 1000 := fun l hl => hall l (List.mem_of_mem_take hl)
          have hfk : (frames (ls.take k)).length ≤ 61000 := by
            have h1 := frames_small (ls.take k) 1000 (by omega) hallk
            have h2 : (ls.take k).length * (1000 + 14) ≤ 60 * 1014 := Nat.mul_le_mul (by omega) (by omega)
            omega
          have hDsz := HDs.out
          have hLL := HL.out
          have hO := open_log wc S8 db [119] D 5 [] ls c c D8.out.dn D8.out.tb hlog (by omega) (by simp) (fun x hx => by cases hx) (fun l hl => by have := hall l hl; omega) (by simp; omega) (by simp; omega)
          rw [HW.out] at hO
          have HO := Lib.hid hO
          clear hO hall
          go_wp2_with (go_at_call 9; refine HO.out.mono ?_; rintro e w9 ⟨v9, lb9, rfl, _, S9, hrow, hl9⟩; refine Hid.out ?_)
          have L9 := Lib.hid (D8.out.log hl9)
          obtain ⟨p9, c9, rfl⟩ : ∃ p cap, v9 = .slice p k cap := by
            obtain ⟨p, cp, e, _⟩ := hrow.shape
            refine ⟨p, cp, ?_⟩
            rw [e]
            simp only [List.flatten_nil, List.nil_append, htk]
          have hB9 : Below W.heap.size W w9 := HB1.out.trans (L9.out.bw.mono hdb.out)
          have hsame9 := same_rows w9 (.slice p9 k c9) (.slice p0 k cap0) (ls.take k) _ _ (hrow.rdl (by simp; omega)) ((HR0.out.below hB9).take hk)
          have HSame := Lib.hid (hsame9.mono fun e w' ⟨he, n, hw⟩ => show e = Ending.returned (.bool true) ∧ Hid (Ls w1 lb9 db 5 [119] S9 w' (logD D [119] 5 [] (frames (ls.take k)) (frames (ls.take k)).length)) from ⟨he, Lib.hid (by
            rw [hw]
            exact L9.out.below (below_drewN (Below.refl _ _) n))⟩)
          clear hsame9 hrow hl9 HO hB9
          refine Lib.hid ?_
          go_wp2_with (go_at_call 14; refine HSame.out.mono ?_; rintro e w10 ⟨rfl, L10⟩; refine Hid.out ?_)
          have La := Lib.hid (L10.out.alloc (.cells #[.slice p2 l2.length cap2] 41))
          have hB10 : Below W.heap.size W w10 := HB1.out.trans (L10.out.bw.mono hdb.out)
          have hr1 := RdL.one (HR2.out.below hB10) hB10.size 41
          have hf2 : (frames [l2]).length ≤ 2000 := by
            have h2 := frames_small [l2] 1000 (by omega) (by simp; omega)
            simp only [List.length_singleton] at h2
            omega
          have HAp := Lib.hid (append_lf _ S9 lb9 db [119] D 5 [] (frames (ls.take k)) (frames (ls.take k)).length La.out.lg hlog (by simp) _ [l2] (hr1.more (by simp)) (by simp; omega) (by simp [roomC]; omega) (by simp only [List.map_nil, List.sum_nil]; omega))
          clear hr1 hB10 HSame L9
          refine Lib.hid ?_
          go_wp2_with (go_at_call 10; refine HAp.out.mono ?_; rintro e w11 ⟨rfl, S11, hl11⟩; refine Hid.out ?_)
          rw [← frames_append] at hl11
          have hfin : (frames (ls.take k ++ [l2])).length ≤ 63000 := by
            rw [frames_append, List.length_append]
            omega
          have L11 := La.out.next hl11
          have D11 := L11.ds
          rw [← List.take_length (l := frames (ls.take k ++ [l2]))] at D11
          have hO2 := open_log w11 S11 db [119] D 5 [] (ls.take k ++ [l2]) _ _ D11.dn D11.tb hlog (Nat.le_refl _) (by simp) (fun x hx => by cases hx) (fun l hl => by
            rcases List.mem_append.1 hl with hl | hl
            · have := hallk l hl
              omega
            · obtain rfl := List.mem_singleton.1 hl
              omega) (by simp; omega) (by simp; omega)
          rw [wh_whole, List.take_length] at hO2
          have HO2 := Lib.hid hO2
          have D11 := Lib.hid D11
          clear hO2 hl11 L11 HAp La L10
          refine Lib.hid ?_
          go_wp2_with (go_at_call 9; refine HO2.out.mono ?_; rintro e w12 ⟨v12, lb12, rfl, _, S12, hrow, hl12⟩; refine Hid.out ?_)
          have L12 := Lib.hid (D11.out.log hl12)
          obtain ⟨p12, c12, rfl⟩ : ∃ p cap, v12 = .slice p (k + 1) cap := by
            obtain ⟨p, cp, e, _⟩ := hrow.shape
            refine ⟨p, cp, ?_⟩
            rw [e]
            simp only [List.flatten_nil, List.nil_append, List.length_append, List.length_singleton, htk]
          have hB12 : Below W.heap.size W w12 := HB1.out.trans (L12.out.bw.mono hdb.out)
          have hrl := hrow.rdl (by simp; omega)
          simp only [List.flatten_nil, List.nil_append] at hrl
          have hle1 : (ls.take k ++ [l2]).length = k + 1 := by rw [List.length_append, htk, List.length_singleton]
          have hrt : RdL w12 w12.heap.size (.slice p12 k c12) (ls.take k) := by
            have h1 := hrl
            rw [show Value.slice p12 (k + 1) c12 = .slice p12 (ls.take k ++ [l2]).length c12 by rw [hle1]] at h1
            have h2 := h1.take (n := k) (by omega)
            rw [List.take_append_of_le_length (by omega), List.take_of_length_le (by omega)] at h2
            exact h2
          obtain ⟨b12, o12, u12b, rfl, hb12, hc12, hru⟩ := hrl.at_ (k := k) (by omega)
          rw [List.getElem_append_right (by omega)] at hru
          simp only [htk, Nat.sub_self, List.getElem_cons_zero] at hru
          obtain ⟨pu, cu, rfl, _⟩ := id hru
          have hcapt : k + 1 ≤ c12 := by
            obtain ⟨p', cap', e', h1', _⟩ := hrl
            injection e' with _ _ e3
            omega
          have HSame2 : ∀ n : Nat, Calls Tryz.prog 14 #[.slice (some ⟨b12, o12, none⟩) k c12, .slice p0 k cap0] (w12.drewN n) fun e w' => e = Ending.returned (.bool true) ∧ ∃ m, (w12.drewN n).drewN m = w' := fun n =>
            (same_rows _ _ _ (ls.take k) _ _ (hrt.drewN n) (((HR0.out.below hB12).drewN n).take hk)).mono fun e w' ⟨he, m, hw⟩ => ⟨he, m, hw.symm⟩
          have k1 : ∀ n : Nat, (Go.convert 41 9 (.slice pu l2.length cu)).run Tryz.prog (w12.drewN n) = .ok (.string ⟨l2.toArray⟩) (w12.drewN n) := fun n => convert_rd (hru.drewN n)
          have k2 : ∀ n : Nat, (Go.convert 41 9 (.slice p2 l2.length cap2)).run Tryz.prog (w12.drewN n) = .ok (.string ⟨l2.toArray⟩) (w12.drewN n) := fun n => convert_rd ((HR2.out.below hB12).drewN n)
          have HB12 := Lib.hid hB12
          have HSame3 := Lib.hid HSame2
          clear hrl hrt hru hrow hl12 HO2 hB12 D11 htk hallk hfin hfk HSame2
          refine Lib.hid ?_
          go_wp2_with fail
          go_upto_region 31 with (fail)
          go_quiet ((go_at_call 14; exact q_drew (HSame3.out _)))
          go_wp2_with fail
          go_ret
          exact ⟨rfl, below_drewN HB12.out _⟩
end Go.Proofs.YtlbfgkocpjlamaaGreatDoor
