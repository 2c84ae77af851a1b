/-
  The walk over glacierlaw4.WalSpans: for any payloads, any turns and any number below the answer is true, and no memory that was there is changed.
-/
import Derived.Test.YtlbfgkocpjlamaaGreatDoorSpP
namespace Go.Proofs.YtlbfgkocpjlamaaGreatDoor
open Go.RowKit

theorem Ls.rot {W w w' : World} {S S' : Nat → Prop} {lb db n m : Nat} {nm : List UInt8} {D D' : Dsk} (h : Ls W lb db n nm S w D) (hlb : W.heap.size ≤ lb) (hf : Fr (fun k => S k ∨ k = lb) w w') (hx : Nx S S' w) (k : Lg w' S' lb db m nm S' w' D') : Ls W lb db m nm S' w' D' :=
  ⟨k, bw_next h.bw (fun k hk => hk.elim (h.up k) fun e => by omega) hf, up_next h.bw h.up hx⟩
/-- What stands behind k payloads. -/
def SpR (w1 : World) (lb db : Nat) (D : Dsk) (ls : List (List UInt8)) (k : Nat) (v : Value) (wr : World) : Prop :=
  ∃ (S : Nat → Prop) (old : List (List (List UInt8))) (cur : List (List UInt8)), Ls w1 lb db (0 + old.length) [119] S wr (logD D [119] 0 old (frames cur) 0) ∧ OwnX wr 3 w1.heap.size v ((insF 0 (old ++ [cur])).map nv) ∧
    (∀ j, v.ownBlock = some j → ¬ S j ∧ j ≠ lb) ∧ old.flatten ++ cur = ls.take k ∧ old.length ≤ k ∧ ∀ l ∈ ls.take k, l.length ≤ 1000
theorem ins_len (old : List (List (List UInt8))) (cur ls : List (List UInt8)) (h : old.flatten ++ cur = ls) : ((insF 0 (old ++ [cur])).map nv).length = ls.length := by
  rw [List.length_map, insF_length, ← h]
  simp

set_option maxRecDepth 100000 in
set_option maxHeartbeats 4000000 in
theorem spans_any (W : World) (hT : Tb W) (v0 : Value) (ls : List (List UInt8)) (rd0 : RdL W W.heap.size v0 ls) (v1 : Value) (tb : List Bool) (rd1 : RdV W (fun _ => False) v1 (tb.map Value.bool)) (a2 : Int) :
    Calls Tryz.prog 5 #[v0, v1, .int .i64 a2] W fun e W' => e = .returned (.bool true) ∧ Below W.heap.size W W' := by
  have hlog : isLog [119] = true := by decide +kernel
  have HT := Lib.hid hT
  have HR0 := Lib.hid rd0
  have HR1 := Lib.hid rd1
  have HK := Lib.hid (known_any W hT)
  obtain ⟨p0, cap0, rfl, hlc0, hl470, hcm0, _⟩ := rd0
  obtain ⟨p1, cap1, rfl, hlc1, hl471, hcm1, _⟩ := rd1
  rw [List.length_map] at *
  clear hT
  go_enter Tryz.func5, Tryz.ntmps5
  go_wp2_with (go_at_call 6; refine HK.out.mono ?_; rintro e w1 ⟨rfl, hb1⟩; refine Hid.out ?_)
  have HB1 := Lib.hid hb1
  have HT1 := Lib.hid (HT.out.below hb1)
  clear hb1 HK
  refine Lib.hid ?_
  by_cases hmany : 60 < ls.length
  · have d1 : decide ((60 : Int) < (ls.length : Int)) = true := by simp; omega
    go_wp2_with fail
    go_ret
    exact ⟨rfl, HB1.out⟩
  have d1 : decide ((60 : Int) < (ls.length : Int)) = false := by simp; omega
  have HNew := Lib.hid (new_any w1 16777216 (by omega) (by omega))
  go_wp2_with (go_at_call 8; refine HNew.out.mono ?_; rintro e w2 ⟨rfl, hd, hb⟩; refine Hid.out ?_)
  have D2 := Lib.hid (Ds.new HT1.out hd hb)
  have hz1 := HB1.out.size
  have hz2 := hb.size
  clear hd hb HNew
  generalize (fun k => w1.heap.size ≤ k ∧ k < w2.heap.size) = S2 at D2
  have hdb : Hid (W.heap.size ≤ w1.heap.size) := Lib.hid hz1
  generalize hdbe : w1.heap.size = db at *
  have HO := Lib.hid (open_new w2 S2 db [119] _ D2.out.dn D2.out.tb 0 hlog rfl (by omega))
  refine Lib.hid ?_
  go_wp2_with (go_at_call 9; refine HO.out.mono ?_; rintro e w3 ⟨v3, lb, rfl, hlb, S3, hrow, hl3⟩; refine Hid.out ?_)
  obtain ⟨p3, c3, rfl⟩ : ∃ p cap, v3 = .slice p 0 cap := by
    obtain ⟨p, c, e, _⟩ := hrow.shape
    exact ⟨p, c, e⟩
  have L3 := Lib.hid (D2.out.log hl3)
  have hlb1 : Hid (w1.heap.size ≤ lb) := Lib.hid (by omega)
  clear hrow hl3 HO hlb hz2
  generalize hDD : Dsk.mk 16777216 [] 0 = D at *
  have hDs : D.size = 16777216 := by rw [← hDD]
  have HDs := Lib.hid hDs
  clear hDD hDs
  refine Lib.hid ?_
  have hW3 : 3 ≤ w1.heap.size := HT1.out.size
  rw [← hdbe] at hdb
  go_wp2_with fail
  go_loopw [12, 13] (fun v i wr => ∃ k : Nat, k ≤ ls.length ∧ i = .int .i64 (k : Int) ∧ Hid (SpR w1 lb db D ls k v wr)) (fun _ i _ => ls.length - (intOf i).toNat)
  case atStart => exact ⟨0, by omega, rfl, Lib.hid ⟨S3, [], [], L3.out, OwnX.nil _ _ _, (fun j hj => by cases hj), rfl, by simp, fun l hl => by simp at hl⟩⟩
  case round =>
    obtain ⟨k, hk, rfl, HI⟩ := hrel
    obtain ⟨S, old, cur, hLs, hOx, hOn, hEq, hOl, hAll⟩ := HI.out
    have HLs := Lib.hid hLs
    have HOx := Lib.hid hOx
    have HOn := Lib.hid hOn
    have HEq := Lib.hid hEq
    have HOl := Lib.hid hOl
    have HAll := Lib.hid hAll
    have hzr := hLs.bw.size
    have HB := Lib.hid (HB1.out.trans (hLs.bw.mono hdb.out))
    have HRr := Lib.hid (HR0.out.below HB.out)
    have HFs : Hid ((frames (ls.take k)).length ≤ 61000) := Lib.hid (by
      have h1 := frames_small (ls.take k) 1000 (by omega) hAll
      have h2 : (ls.take k).length * (1000 + 14) ≤ 60 * 1014 := Nat.mul_le_mul (by simp; omega) (by omega)
      omega)
    have HSum := Lib.hid (frames_sum old cur)
    clear hLs hOx hOn hEq hOl hAll HI
    by_cases hlt : k < ls.length
    · obtain ⟨b, off, u, rfl, hb, hc, hru⟩ := HRr.out.at_ hlt
      have HTs := Lib.hid (take_snoc ls k _ (List.getElem?_eq_getElem hlt))
      generalize ls[k] = l at *
      obtain ⟨pu, cu, rfl, _⟩ := id hru
      have HRu := Lib.hid hru
      clear hru
      by_cases hl : 1000 < l.length
      · have d3 : decide ((1000 : Int) < (l.length : Int)) = true := by simp; omega
        go_wp2_with fail
        go_ret
        exact ⟨by first | rfl | simp [d3], HB.out⟩
      · have d3 : decide ((1000 : Int) < (l.length : Int)) = false := by simp; omega
        have La := Lib.hid (HLs.out.alloc (.cells #[.slice pu l.length cu] 41))
        have hr1 := RdL.one HRu.out HB.out.size 41
        have HAp := append_lf _ S lb db [119] D 0 old (frames cur) 0 La.out.lg hlog (by have := HOl.out; omega) _ [l] (hr1.more (by simp)) (by simp; omega) (by simp [roomC]; omega) (by
          have h2 := frames_small [l] 1000 (by omega) (by simp; omega)
          have h3 := HDs.out
          have h4 := HFs.out
          have h5 := HSum.out
          rw [HEq.out] at h5
          simp only [List.length_singleton] at h2
          omega)
        have HAp := Lib.hid HAp
        clear hr1
        go_wp2_with (go_at_call 10; refine HAp.out.mono ?_; rintro e w4 ⟨rfl, S4, hl4⟩; refine Hid.out ?_)
        rw [← frames_append] at hl4
        have hza : wr.heap.size ≤ (wr.alloc (.cells #[.slice pu l.length cu] 41)).heap.size := by simp
        have HO4 := Lib.hid ((HOx.out.alloc (.cells #[.slice pu l.length cu] 41)).fr hl4.fr fun j hj => (HOn.out j hj).1)
        have HN4 : Hid (∀ j, u12.ownBlock = some j → ¬ S4 j ∧ j ≠ lb) := Lib.hid fun j hj => ⟨hl4.nx.old (Nat.lt_of_lt_of_le (HOx.out.lt j hj).2 hza) (HOn.out j hj).1, (HOn.out j hj).2⟩
        have L4 := Lib.hid (La.out.next hl4)
        have HSeg := segment_any w4 lb db _ [119] L4.out.lg.log
        rw [Nat.zero_add] at HSeg
        have HSeg := Lib.hid HSeg
        clear hl4 hza HAp La
        refine Lib.hid ?_
        have HO1 := Lib.hid (RdV.one w4 (fun _ => False) (nv old.length) 3 (fun hf => hf))
        have HIl := Lib.hid (ins_len old cur _ HEq.out)
        have hz4 := L4.out.bw.size
        go_wp2_with (first
          | (go_at_call 17; refine HSeg.out.mono ?_; rintro e w5 ⟨rfl, rfl⟩)
          | (at_builtin; refine wpList_append_x Tryz.underlying23 infoInt rfl rfl _ _ rfl w1.heap.size _ _ ((insF 0 (old ++ [cur])).map nv) [nv old.length] (fun _ => False) rfl (HO4.out.alloc _) rfl HO1.out (by simp [nv, Value.oneCell']) (by have h := HIl.out; rw [List.length_take] at h; simp only [List.length_singleton]; omega) (by omega) (by simp; omega) ?_; intro v' w7 hown7 hg7 hat7; refine Hid.out ?_))
        have hE7 : (insF 0 (old ++ [cur])).map nv ++ [nv old.length] = (insF 0 (old ++ [cur ++ [l]])).map nv := by
          rw [insF_more, List.map_append]
          rfl
        rw [hE7] at hown7
        have L7 := Lib.hid ((L4.out.alloc _).row hW3 hg7 fun j hj => ⟨(HO4.out.lt j hj).1, (HN4.out j hj).1, (HN4.out j hj).2⟩)
        have N7 : Hid (∀ j, v'.ownBlock = some j → ¬ S4 j ∧ j ≠ lb) := Lib.hid fun j hj => by
          rcases hat7 with e | e
          · rw [e] at hj
            exact HN4.out j hj
          · rw [e] at hj
            obtain rfl : _ = j := Option.some.inj hj
            have h1 := L4.out.lg.log.lt
            refine ⟨fun hs => ?_, by simp; omega⟩
            have h2 := L4.out.lg.dn.hi _ hs
            rw [World.size_alloc] at h2
            omega
        have O7 := Lib.hid hown7
        have HB7 := Lib.hid (HB1.out.trans (L7.out.bw.mono hdb.out))
        have HT7 := Lib.hid (HR1.out.same (Fr.of_new HB7.out _))
        have HE7 : Hid (old.flatten ++ (cur ++ [l]) = ls.take (k + 1)) := Lib.hid (by rw [HTs.out, ← HEq.out, List.append_assoc])
        have HA7 : Hid (∀ x ∈ ls.take (k + 1), x.length ≤ 1000) := Lib.hid fun x hx => by
          rw [HTs.out] at hx
          rcases List.mem_append.1 hx with hx | hx
          · exact HAll.out x hx
          · obtain rfl := List.mem_singleton.1 hx
            omega
        clear hg7 hat7 hown7 hE7 HO4 HN4 L4 HSeg HO1 HIl HTs HRu HLs HOx HOn HEq HAll HFs HSum hc hb d3
        refine Lib.hid ?_
        by_cases hk2 : k < tb.length
        · obtain ⟨b1, off1, rfl, hb1, _, hc1⟩ := HT7.out.atv (k := k) (x := Value.bool tb[k]) (by simp [hk2])
          cases htk : tb[k] with
          | false =>
            rw [htk] at hc1
            go_wp2_with fail
            go_roundw
            case rel => exact ⟨k + 1, by omega, by go_num, Lib.hid ⟨S4, old, cur ++ [l], L7.out, O7.out, N7.out, HE7.out, by have := HOl.out; omega, HA7.out⟩⟩
            case measure => simp [intOf]; omega
          | true =>
            rw [htk] at hc1
            have HRo := Lib.hid (rotate_lf w7 S4 lb db [119] D 0 old (cur ++ [l]) 0 L7.out.lg hlog (by have := HOl.out; omega))
            go_wp2_with (go_at_call 12; refine HRo.out.mono ?_; rintro e w8 ⟨rfl, hf8, S8, hx8, hl8⟩; have F8 := Lib.hid hf8; have X8 := Lib.hid hx8; have G8 := Lib.hid hl8; clear hf8 hx8 hl8)
            go_roundw
            case rel =>
              refine ⟨k + 1, by omega, by go_num, Lib.hid ⟨S8, old ++ [cur ++ [l]], [], ?_, ?_, fun j hj => ⟨X8.out.old (O7.out.lt j hj).2 (N7.out j hj).1, (N7.out j hj).2⟩, ?_, ?_, HA7.out⟩⟩
              · exact L7.out.rot hlb1.out F8.out X8.out G8.out
              · rw [insF_turn]
                exact O7.out.fr F8.out fun j hj hs => hs.elim (N7.out j hj).1 (N7.out j hj).2
              · rw [List.append_nil, List.flatten_append]
                simpa using HE7.out
              · have := HOl.out
                simp
                omega
            case measure => simp [intOf]; omega
        · go_wp2_with fail
          go_roundw
          case rel => exact ⟨k + 1, by omega, by go_num, Lib.hid ⟨S4, old, cur ++ [l], L7.out, O7.out, N7.out, HE7.out, by have := HOl.out; omega, HA7.out⟩⟩
          case measure => simp [intOf]; omega
    · obtain rfl : k = ls.length := by omega
      rw [List.take_length] at HAll HEq HFs
      have hol := HOl.out
      have HSeg := segment_any wr lb db _ [119] HLs.out.lg.log
      rw [Nat.zero_add] at HSeg
      have HSeg := Lib.hid HSeg
      clear hlt hk
      go_wp2_with (go_at_call 17; refine HSeg.out.mono ?_; rintro e w5 ⟨rfl, rfl⟩; refine Hid.out ?_)
      generalize hL : old.length = L at *
      have HL := Lib.hid hL
      clear hL HSeg
      refine Lib.hid ?_
      obtain ⟨T, hT⟩ : ∃ T : Int, a2.tmod ((L : Int) + 1) = T := ⟨_, rfl⟩
      have ht1 : T < (L : Int) + 1 := by rw [← hT]; exact Int.tmod_lt_of_pos _ (by omega)
      have ht2 : -((L : Int) + 1) < T := by rw [← hT]; exact Int.lt_tmod_of_pos _ (by omega)
      go_upto_if 90 with (fail)
      go_cut [2] (fun a wx => ∃ b : Nat, a = .int .i64 (b : Int) ∧ b ≤ L ∧ wx = wr)
      case first =>
        have hsplit : (∃ c : Nat, T = -(c : Int) ∧ 0 < c ∧ c ≤ L) ∨ ∃ c : Nat, T = (c : Int) ∧ c ≤ L := by
          by_cases hn : T < 0
          · exact .inl ⟨T.natAbs, by omega, by omega, by omega⟩
          · exact .inr ⟨T.natAbs, by omega, by omega⟩
        rcases hsplit with ⟨c, rfl, hc0, hcL⟩ | ⟨c, rfl, hcL⟩
        all_goals
          go_wp2_with fail
          go_meet
          exact ⟨c, by go_num, hcL, rfl⟩
      case rest =>
        obtain ⟨b, rfl, hbL, rfl⟩ := hcut
        obtain rfl := HL.out
        clear ht1 ht2 hT
        have hmax : 0 + old.length ≤ 999996 := by omega
        have HSy := Lib.hid (sync_lf _ S lb db [119] D 0 old (frames cur) 0 HLs.out.lg hlog hmax)
        go_wp2_with (go_at_call 11; refine HSy.out.mono ?_; rintro e wa ⟨rfl, Sa, hla⟩; refine Hid.out ?_)
        have La := Lib.hid (HLs.out.next hla)
        have Oa := Lib.hid (HOx.out.fr hla.fr fun j hj => (HOn.out j hj).1)
        have Na : Hid (∀ j, u12.ownBlock = some j → ¬ Sa j) := Lib.hid fun j hj => hla.nx.old (HOx.out.lt j hj).2 (HOn.out j hj).1
        have htr := truncate_log wa Sa lb db (0 + old.length) [119] _ (nums 0 (old.length + 1)) La.out.lg.log La.out.lg.dn La.out.lg.tb (logD_segs D [119] 0 old _ _) (fun n hn => by have := mem_nums hn; omega) (by simp) (by rw [logD_count]; omega) (b : Int) (by omega)
        rw [nums_filter _ _ (by omega), dels_logD b hbL (by omega), Nat.zero_add] at htr
        have HTr := Lib.hid htr
        clear htr hla HSy HLs HOx HOn HRr HB
        refine Lib.hid ?_
        go_wp2_with (go_at_call 18; refine HTr.out.mono ?_; rintro e wb ⟨rfl, hfb, Sb, hdb2, hxb⟩; refine Hid.out ?_)
        have Lb := Lib.hid (La.out.next (La.out.lg.ext hfb hdb2 hxb))
        have Ob := Lib.hid (Oa.out.fr hfb Na.out)
        have hfi := first_any wb Sb lb db (0 + old.length) [119] _ (nums b ((old.drop b).length + 1)) Lb.out.lg.log Lb.out.lg.dn Lb.out.lg.tb (logD_segs D [119] b (old.drop b) _ _) (fun n hn => by have := mem_nums hn; rw [List.length_drop] at this; omega) (by simp) (by rw [logD_count, List.length_drop]; omega)
        rw [nums_head] at hfi
        have HFi := Lib.hid hfi
        clear hfi hfb hdb2 hxb HTr La Oa Na
        refine Lib.hid ?_
        go_wp2_with (go_at_call 19; refine HFi.out.mono ?_; rintro e wd ⟨rfl, hbd⟩; refine Hid.out ?_)
        have Ld := Lib.hid (Lb.out.below hbd)
        have Od := Lib.hid (Ob.out.below hbd)
        have hIl := ins_len old cur ls HEq.out
        have HRd := Lib.hid (Od.out.rdv (S := fun _ => False) (by omega) (fun _ _ hf => hf))
        obtain ⟨q, cq, rfl, _⟩ := Od.out.shape
        obtain ⟨N, hNe⟩ : ∃ N, ((old ++ [cur]).take b).flatten.length = N := ⟨_, rfl⟩
        have hN : N ≤ ls.length := by
          have h1 := flat_take_le (old ++ [cur]) b
          rw [hNe, ← insF_length 0] at h1
          rw [List.length_map] at hIl
          omega
        have hin : ∀ k x, (insF 0 (old ++ [cur]))[k]? = some x → (x < b ↔ k < N) := fun k x hx => by
          have h1 := insF_below 0 (old ++ [cur]) b k x hx
          rwa [Nat.zero_add, hNe] at h1
        have hil : (insF 0 (old ++ [cur])).length = ls.length := by rw [List.length_map] at hIl; exact hIl
        rw [hIl] at *
        have HIn := Lib.hid hin
        have HNe := Lib.hid hNe
        have HIl := Lib.hid hil
        clear hbd HFi Lb Ob hin hNe hIl hil
        refine Lib.hid ?_
        go_upto_block 2 with (fail)
        go_cut [14] (fun a wx => a = .int .i64 (N : Int) ∧ wx = wd)
        case first =>
          go_wp2_with fail
          go_loop [14] (fun i => ∃ k : Nat, k ≤ N ∧ i = .int .i64 (k : Int)) (fun i => ls.length - (intOf i).toNat)
          case atStart => exact ⟨0, by omega, rfl⟩
          case round =>
            obtain ⟨k, hk, rfl⟩ := hrel
            by_cases hlt : k < ls.length
            · obtain ⟨x, hx⟩ : ∃ x, (insF 0 (old ++ [cur]))[k]? = some x := ⟨_, List.getElem?_eq_getElem (by rw [HIl.out]; exact hlt)⟩
              obtain ⟨b9, off9, rfl, hb9, _, hc9⟩ := HRd.out.atv (k := k) (x := nv x) (by rw [List.getElem?_map, hx]; rfl)
              change wd.cell? ⟨b9, off9 + k, none⟩ = some (.int .i64 (x : Int)) at hc9
              have hbw := HIn.out k x hx
              by_cases hle : x < b
              · have hk3 := hbw.1 hle
                clear hbw hx
                go_wp2_with fail
                go_round
                case rel => exact ⟨k + 1, by omega, by go_num⟩
                case measure => simp [intOf]; omega
              · have hk3 : Hid (k = N) := Lib.hid (by
                  have : ¬ k < N := fun h => hle (hbw.2 h)
                  omega)
                clear hbw hx
                go_wp2_with fail
                go_meet
                exact ⟨by rw [hk3.out], rfl⟩
            · have hk3 : Hid (k = N) := Lib.hid (by omega)
              go_wp2_with fail
              go_meet
              exact ⟨by rw [hk3.out], rfl⟩
        case rest =>
          obtain ⟨rfl, rfl⟩ := hcut
          have hdl : (old.drop b).length = old.length - b := List.length_drop
          have hcr := crash_lf _ Sb db [119] D b (old.drop b) (frames cur) (frames cur).length Ld.out.ds.dn (Nat.le_refl _) (by omega) (.slice none 0 0) [] (RdV.nil _ _) (fun p hp => by cases hp)
          have hlf : left (frames cur) (frames cur).length (([] : List Int).getD (old.drop b).length 0) = (frames cur).length :=
            Nat.le_antisymm (left_le _ _ _ (Nat.le_refl _)) (left_ge _ _ _)
          rw [hlf] at hcr
          have HC := Lib.hid hcr
          have hfd := flat_drop old cur ls b hbL HEq.out
          rw [HNe.out] at hfd
          have hall := HAll.out
          have hm1 : ∀ l ∈ (old.drop b).flatten ++ cur, l.length ≤ 1000 := fun l hl => hall l (by rw [← hfd] at hl; exact List.mem_of_mem_drop hl)
          have hcnt : ((old.drop b).flatten ++ cur).length ≤ 60 := by
            rw [← hfd, List.length_drop]
            omega
          have hfs : (frames ((old.drop b).flatten ++ cur)).length ≤ 61000 := by
            have h1 := frames_small _ 1000 (by omega) hm1
            have h2 : ((old.drop b).flatten ++ cur).length * (1000 + 14) ≤ 60 * 1014 := Nat.mul_le_mul hcnt (by omega)
            omega
          have hsum := frames_sum (old.drop b) cur
          have hDsz := HDs.out
          clear hcr hlf
          go_wp2_with (go_at_call 13; refine HC.out.mono ?_; rintro e w8 ⟨rfl, hfr, S8, hx, hd⟩; refine Hid.out ?_)
          have D8 := Lib.hid (Ld.out.ds.next hd hfr hx)
          have hO := open_log w8 S8 db [119] D b (old.drop b) cur (frames cur).length (frames cur).length D8.out.dn D8.out.tb hlog (Nat.le_refl _) (by omega)
            (fun x hx l hl => by
              have := hm1 l (List.mem_append_left _ (List.mem_flatten.2 ⟨x, hx, hl⟩))
              omega)
            (fun l hl => by
              have := hm1 l (List.mem_append_right _ hl)
              omega) (by omega) (by rw [List.length_append] at hcnt; omega)
          rw [wh_whole, List.take_length, ← hfd] at hO
          have HO := Lib.hid hO
          clear hO hfr hx hd HC hall hm1 hcnt hfs hsum hDsz
          refine Lib.hid ?_
          go_wp2_with (go_at_call 9; refine HO.out.mono ?_; rintro e w9 ⟨v9, lb9, rfl, _, S9, hrow, hl9⟩; refine Hid.out ?_)
          have L9 := Lib.hid (D8.out.log hl9)
          have hB9 : Below W.heap.size W w9 := HB1.out.trans (L9.out.bw.mono hdb.out)
          obtain ⟨p9, c9, rfl⟩ : ∃ p c, v9 = .slice p (ls.length - N) c := by
            obtain ⟨p, c, e, _⟩ := hrow.shape
            exact ⟨p, c, by rw [e, List.length_drop]⟩
          obtain ⟨pt, ct, htl, hsl⟩ := tail_rows (n := N) (HR0.out.below hB9) hN
          have HSame := Lib.hid (same_rows w9 _ _ (ls.drop N) _ _ (hrow.rdl (by rw [List.length_drop]; omega)) htl)
          have HB9 := Lib.hid hB9
          clear hrow hl9 HO hB9 htl hfd
          refine Lib.hid ?_
          go_wp2_with (go_at_call 14; refine HSame.out.mono ?_; rintro e w10 ⟨rfl, m, rfl⟩)
          go_ret
          exact ⟨rfl, below_drewN HB9.out _⟩
end Go.Proofs.YtlbfgkocpjlamaaGreatDoor
