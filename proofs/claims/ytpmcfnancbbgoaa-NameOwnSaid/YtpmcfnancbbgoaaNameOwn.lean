/- NameOwn: a name matches itself, and as a filter no other name; with one level more generous it matches what it did; # behind it matches it, and all beneath. -/
import Derived.Test.YtpmcfnancbbgoaaNameAsks
import Derived.Test.YtpmcfnancbbgoaaNameLaw
import Derived.Test.YtpmcfnancbbgoaaNameOwnPlain
namespace Go.Proofs.Ytpmcfnancbbgoaa
open Go.RowKit Go.Lib Txt Nam

theorem str_app (a b : List UInt8) : str a ++ (⟨b.toArray⟩ : ByteArray) = str (a ++ b) := by apply ByteArray.ext; simp [str]
theorem str_both (a b : List UInt8) : str a ++ str b = str (a ++ b) := str_app a b
theorem join_size : ∀ (ls : List (List UInt8)) (m : Nat), (∀ x ∈ ls, x.length ≤ m) → (join ls).length ≤ (m + 1) * ls.length
  | [], m, _ => by simp [join]
  | [x], m, h => by have := h x (by simp); simp [join]; omega
  | x :: y :: r, m, h => by
    have h1 := h x (by simp)
    have h2 := join_size (y :: r) m (fun z hz => h z (by simp [hz]))
    rw [join_cons x (by simp), List.length_append, List.length_cons]
    rw [List.length_cons, Nat.mul_add]
    omega
theorem join_take_size (ls : List (List UInt8)) (m j : Nat) (h : ∀ x ∈ ls, x.length ≤ m) : (join (ls.take j)).length ≤ (m + 1) * j := by
  refine Nat.le_trans (join_size _ m fun x hx => h x (List.mem_of_mem_take hx)) ?_
  exact Nat.mul_le_mul_left _ (by rw [List.length_take]; omega)

theorem own_byte0 {t : ByteArray} (h : 0 < t.size) : ((t[0].toNat : Int) == 36) = own t.data.toList := by
  rw [show ((36 : Int)) = (((36 : UInt8).toNat : Nat) : Int) from rfl, byte_eq]
  have := drop_byte h
  rw [List.drop_zero] at this
  rw [this]
  unfold own hasPrefix
  generalize t[0] = c
  rw [Bool.eq_iff_iff]
  simp [List.isPrefixOf]
  exact ⟨fun e => e.symm, fun e => e.symm⟩

set_option maxRecDepth 100000 in
set_option maxHeartbeats 16000000 in
theorem NameOwn_any (A : Option Addr) (n c : Nat) (w : World) (h : Asks w A n) :
    Calls Try.prog 5 #[.slice A n c] w fun e w' => e = .returned (.bool true) ∧ Below w.heap.size w w' := by
  have H := Lib.hid h
  clear h
  go_enter Try.func5, Try.ntmps5
  go_wp2_with fail
  go_loopw [3] (fun i wr => ∃ k : Nat, k ≤ n ∧ k ≤ 12 ∧ i = .int .i64 (k : Int) ∧ Below w.heap.size w wr) (fun i _ => 12 - (RowKit.intOf i).toNat)
  case atStart => exact ⟨0, Nat.zero_le _, by omega, rfl, Below.refl _ _⟩
  case round =>
    obtain ⟨k, hkn, hk12, rfl, hnx⟩ := hrel
    by_cases hgo : k < n ∧ k < 12
    · obtain ⟨h1, h2⟩ := hgo
      rcases H.out with h0 | ⟨b, off, rfl, hall⟩
      · omega
      · obtain ⟨f, t, ha⟩ := hall k h1
        have HA := Lib.hid ha
        have HX := Lib.hid hnx
        have q0 := (ha.below hnx).c0
        have q1 := (ha.below hnx).c1
        have hs0 := ha.hf
        have hs1 := ha.ht
        clear hall ha hnx H
        have hknI : (k : Int) < (n : Int) := by omega
        have hk12I : (k : Int) < 12 := by omega
        by_cases hh : 4000 < f.size + t.size
        · have HH := Lib.hid (fun W => heavy_is f t true W hs0 hs1 (decide_eq_true hh))
          go_wp2_with (go_at_call 7; refine (HH.out _).mono ?_; rintro e w1 ⟨rfl, hb1⟩)
          go_roundw
          case rel => exact ⟨k + 1, h1, h2, by go_num, HX.out.trans (hb1.mono HX.out.size)⟩
          case measure => simp [RowKit.intOf]; omega
        · have HH := Lib.hid (fun W => heavy_is f t false W hs0 hs1 (decide_eq_false hh))
          have htl : t.size ≤ 4000 := by omega
          have hts := str_size t.data.toList
          rw [data_str] at hts
          obtain ⟨x, hxe⟩ : ∃ x, x = t.data.toList := ⟨_, rfl⟩
          have htx : t = str x := by rw [hxe, data_str]
          rw [← hxe] at hts
          clear hxe
          subst htx
          by_cases hem : x = []
          · have hq2 : ((str x).toList == []) = true := by rw [str_toList, hem]; rfl
            have hse : str x = ByteArray.empty := by rw [hem]; rfl
            rw [hse] at q1 HH HA
            clear hem hts hse hq2 htl hs1 hh
            go_wp2_with (go_at_call 7; refine (HH.out _).mono ?_; rintro e w1 ⟨rfl, hb1⟩)
            go_roundw
            case rel => exact ⟨k + 1, h1, h2, by go_num, HX.out.trans (hb1.mono HX.out.size)⟩
            case measure => simp [RowKit.intOf]; omega
          · have hd : (str x).data.toList = x := str_data x
            have hq := empty_no (s := str x) (by rw [hd]; exact hem)
            have hq2 : ((str x).toList == []) = false := by rw [beq_eq_false_iff_ne]; exact hq
            have hse : ¬ str x = ByteArray.empty := by intro e; rw [e] at hd; exact hem hd.symm
            obtain ⟨E, hE⟩ : ∃ E, topicErr x = E := ⟨_, rfl⟩
            have hsx : (str x).size ≤ 1000000 := by omega
            have MT := Lib.hid (fun W => Topic_is (str x) E W hsx (by rw [hd]; exact hE))
            by_cases hE0 : E = 0
            · have hpos : 0 < (str x).size := by rw [hts]; exact List.length_pos_iff.2 hem
              have hposI : (0 : Int) < ((str x).size : Int) := by omega
              have hob := own_byte0 hpos
              have h256 : (str x)[0].toNat < 256 := UInt8.toNat_lt _
              rw [hd] at hob
              subst hE0
              cases ho : own x with
              | true =>
                rw [ho] at hob
                clear ho hE hem hd hts hh
                go_wp2_with (first | (go_at_call 7; refine (HH.out _).mono ?_; rintro e w1 ⟨rfl, hb1⟩) | (go_at_call 12; refine (MT.out _).mono ?_; rintro e w2 ⟨rfl, hb2⟩) | (go_at_call 11; refine (num_is _ _).mono ?_; rintro e w' ⟨rfl, rfl⟩))
                go_roundw
                case rel =>
                  have hx1 := HX.out.trans (hb1.mono HX.out.size)
                  exact ⟨k + 1, h1, h2, by go_num, hx1.trans (hb2.mono hx1.size)⟩
                case measure => simp [RowKit.intOf]; omega
              | false =>
                rw [ho] at hob
                by_cases hlen : 1020 < x.length
                · have hlI : (1020 : Int) < ((str x).size : Int) := by omega
                  clear ho hE hem hd hts hh hlen
                  go_wp2_with (first | (go_at_call 7; refine (HH.out _).mono ?_; rintro e w1 ⟨rfl, hb1⟩) | (go_at_call 12; refine (MT.out _).mono ?_; rintro e w2 ⟨rfl, hb2⟩) | (go_at_call 11; refine (num_is _ _).mono ?_; rintro e w' ⟨rfl, rfl⟩))
                  go_roundw
                  case rel =>
                    have hx1 := HX.out.trans (hb1.mono HX.out.size)
                    exact ⟨k + 1, h1, h2, by go_num, hx1.trans (hb2.mono hx1.size)⟩
                  case measure => simp [RowKit.intOf]; omega
                · have hlI : ¬ (1020 : Int) < ((str x).size : Int) := by omega
                  have hG : Nam.Good x := ⟨hE, ho, by omega⟩
                  have HG := Lib.hid hG
                  have hxl : x.length ≤ 1020 := by omega
                  have h1s : (str (x ++ [120])).size ≤ 1000000 := by rw [str_size]; simp; omega
                  have h2s : ∀ a b, (str (x ++ [a, b])).size ≤ 1000000 := fun a b => by rw [str_size]; simp; omega
                  have ML := Lib.hid (fun W => Levels_is (str x) W hsx)
                  rw [hd] at ML
                  have N1 := Lib.hid (fun W => Match_is (str x) (str x) true W hsx hsx (by rw [hd]; exact hG.self))
                  have N2 := Lib.hid (fun W => Match_is (str x) (str x ++ ⟨#[120]⟩) false W hsx (by rw [show str x ++ ⟨#[120]⟩ = str (x ++ [120]) from str_app x [120]]; exact h1s) (by rw [show str x ++ ⟨#[120]⟩ = str (x ++ [120]) from str_app x [120], hd, str_data]; exact hG.other))
                  have N3 := Lib.hid (fun W => Filter_is (str x) 0 W hsx (by rw [hd]; exact hG.filter))
                  have N4 := Lib.hid (fun W => Match_is ⟨#[35]⟩ (str x) true W (by decide) hsx (by rw [hd]; exact hG.all))
                  have NB := Lib.hid (fun (hl : (split x).length < 16) => And.intro (fun W => Match_is (str x ++ ⟨#[47, 35]⟩) (str x) true W (by rw [show str x ++ ⟨#[47, 35]⟩ = str (x ++ [47, 35]) from str_app x [47, 35]]; exact h2s _ _) hsx (by rw [show str x ++ ⟨#[47, 35]⟩ = str (x ++ [47, 35]) from str_app x [47, 35], hd, str_data]; exact hG.b1 hl))
                    (And.intro (fun W => Match_is (str x ++ ⟨#[47, 35]⟩) (str x ++ ⟨#[47, 120]⟩) true W (by rw [show str x ++ ⟨#[47, 35]⟩ = str (x ++ [47, 35]) from str_app x [47, 35]]; exact h2s _ _) (by rw [show str x ++ ⟨#[47, 120]⟩ = str (x ++ [47, 120]) from str_app x [47, 120]]; exact h2s _ _) (by rw [show str x ++ ⟨#[47, 35]⟩ = str (x ++ [47, 35]) from str_app x [47, 35], show str x ++ ⟨#[47, 120]⟩ = str (x ++ [47, 120]) from str_app x [47, 120], str_data, str_data]; exact hG.b2 hl))
                    (And.intro (fun W => Match_is (str x ++ ⟨#[47, 43]⟩) (str x) false W (by rw [show str x ++ ⟨#[47, 43]⟩ = str (x ++ [47, 43]) from str_app x [47, 43]]; exact h2s _ _) hsx (by rw [show str x ++ ⟨#[47, 43]⟩ = str (x ++ [47, 43]) from str_app x [47, 43], hd, str_data]; exact hG.b3 hl))
                    (fun W => Match_is (str x ++ ⟨#[47, 43]⟩) (str x ++ ⟨#[47, 120]⟩) true W (by rw [show str x ++ ⟨#[47, 43]⟩ = str (x ++ [47, 43]) from str_app x [47, 43]]; exact h2s _ _) (by rw [show str x ++ ⟨#[47, 120]⟩ = str (x ++ [47, 120]) from str_app x [47, 120]]; exact h2s _ _) (by rw [show str x ++ ⟨#[47, 43]⟩ = str (x ++ [47, 43]) from str_app x [47, 43], show str x ++ ⟨#[47, 120]⟩ = str (x ++ [47, 120]) from str_app x [47, 120], str_data, str_data]; exact hG.b4 hl)))))
                  have NW := Lib.hid (fun (j : Nat) (hj : filterErr (join (wider x j)) = 0) (hjl : (join (wider x j)).length ≤ 100000) W => Match_is (str (join (wider x j))) (str x) true W (by rw [str_size]; omega) hsx (by rw [str_data, hd]; exact hG.wide j hj))
                  have hls : (split x).length ≤ 16 := (checkErr_len (topicErr_zero.1 hE).1).2.2
                  have hz1 : ¬ (9223372036854775807 < (str x).size + 1) := by omega
                  have hz2 : ¬ (9223372036854775807 < (str x).size + 2) := by omega
                  clear ho hE hem hd hh h1s h2s hG
                  generalize hsxe : str x = s at *
                  have HSX := Lib.hid hsxe
                  clear hsxe hts
                  go_wp2_with (first | (go_at_call 7; refine (HH.out _).mono ?_; rintro e w1 ⟨rfl, hb1⟩) | (go_at_call 12; refine (MT.out _).mono ?_; rintro e w2 ⟨rfl, hb2⟩) | (go_at_call 11; refine (num_is _ _).mono ?_; rintro e w' ⟨rfl, rfl⟩))
                  refine (ML.out _).mono ?_
                  rintro e w3 ⟨A1, c1, rfl, hown, hb3⟩
                  have HN := Lib.hid (Strs.of_own hown)
                  have hx1 := HX.out.trans (hb1.mono HX.out.size)
                  have hx2 := hx1.trans (hb2.mono hx1.size)
                  have H3 := Lib.hid (hx2.trans (hb3.mono hx2.size))
                  clear hown hx1 hx2 hb1 hb2 hb3 q0 q1 MT HH ML hob h256 HX hlI
                  have HWL := Lib.hid (fun j => wider_len (t := x) j)
                  have HWA := Lib.hid (fun m j h => wider_at x m j h)
                  have HWZ := Lib.hid (fun m => wider_level HG.out m)
                  generalize split x = ls at HN NB hls HWL HWA
                  go_wp2_with fail
                  refine (N1.out _).mono ?_
                  rintro e w4 ⟨rfl, hb4⟩
                  have HN4 := Lib.hid (HN.out.on hb4)
                  have H4 := Lib.hid (H3.out.trans (hb4.mono H3.out.size))
                  clear hb4 HN H3
                  go_wp2_with fail
                  refine (N2.out _).mono ?_
                  rintro e w5 ⟨rfl, hb5⟩
                  have HN5 := Lib.hid (HN4.out.on hb5)
                  have H5 := Lib.hid (H4.out.trans (hb5.mono H4.out.size))
                  clear hb5 HN4 H4
                  go_wp2_with fail
                  refine (N3.out _).mono ?_
                  rintro e w6 ⟨rfl, hb6⟩
                  have HN6 := Lib.hid (HN5.out.on hb6)
                  have H6 := Lib.hid (H5.out.trans (hb6.mono H5.out.size))
                  clear hb6 HN5 H5
                  go_wp2_with (go_at_call 11; refine (num_is _ _).mono ?_; rintro e w' ⟨rfl, rfl⟩)
                  refine (N4.out _).mono ?_
                  rintro e w7 ⟨rfl, hb7⟩
                  have HN7 := Lib.hid (HN6.out.on hb7)
                  have H7 := Lib.hid (H6.out.trans (hb7.mono H6.out.size))
                  clear hb7 HN6 H6 N1 N2 N3 N4
                  have step : (∃ b : Bool, decide (ls.length < 16) = b) := ⟨_, rfl⟩
                  obtain ⟨bl, hbl⟩ := step
                  have hblI : decide ((ls.length : Int) < 16) = bl := by rw [← hbl, decide_eq_decide]; omega
                  cases bl
                  case true =>
                    obtain ⟨B1, B2, B3, B4⟩ := NB.out (of_decide_eq_true hbl)
                    have B1 := Lib.hid B1
                    have B2 := Lib.hid B2
                    have B3 := Lib.hid B3
                    have B4 := Lib.hid B4
                    clear hbl
                    go_wp2_with fail
                    refine (B1.out _).mono ?_
                    rintro e w8 ⟨rfl, hb8⟩
                    have HN8 := Lib.hid (HN7.out.on hb8)
                    have H8 := Lib.hid (H7.out.trans (hb8.mono H7.out.size))
                    clear hb8 HN7 H7
                    go_wp2_with fail
                    refine (B2.out _).mono ?_
                    rintro e w9 ⟨rfl, hb9⟩
                    have HN9 := Lib.hid (HN8.out.on hb9)
                    have H9 := Lib.hid (H8.out.trans (hb9.mono H8.out.size))
                    clear hb9 HN8 H8
                    go_wp2_with fail
                    refine (B3.out _).mono ?_
                    rintro e w10 ⟨rfl, hb10⟩
                    have HN10 := Lib.hid (HN9.out.on hb10)
                    have H10 := Lib.hid (H9.out.trans (hb10.mono H9.out.size))
                    clear hb10 HN9 H9
                    go_wp2_with fail
                    refine (B4.out _).mono ?_
                    rintro e w7 ⟨rfl, hb11⟩
                    have HN7 := Lib.hid (HN10.out.on hb11)
                    have H7 := Lib.hid (H10.out.trans (hb11.mono H10.out.size))
                    clear hb11 HN10 H10 B1 B2 B3 B4
                    go_wp2_with fail
                    clear NB hblI
                    go_loopw [6] (fun i wr => ∃ m : Nat, m ≤ ls.length ∧ i = .int .i64 (m : Int) ∧ Below w7.heap.size w7 wr) (fun i _ => ls.length - (RowKit.intOf i).toNat)
                    case atStart => exact ⟨0, Nat.zero_le _, rfl, Below.refl _ _⟩
                    case round =>
                      obtain ⟨m, hml, rfl, hbw⟩ := hrel
                      have HW := Lib.hid hbw
                      have hsz := hbw.size
                      clear hbw
                      by_cases hlt : m < ls.length
                      · have hmI : (m : Int) < (ls.length : Int) := by omega
                        have hjs := Lib.hid (fun j => join_take_size (wider x m) 1020 j (HWZ.out m))
                        have hwl := Lib.hid (HWL.out m)
                        go_wp2_with fail
                        go_loop [7, 8] (fun sv jv => ∃ j : Nat, j ≤ ls.length ∧ sv = .string (str (join ((wider x m).take j))) ∧ jv = .int .i64 (j : Int)) (fun _ jv => ls.length - (RowKit.intOf jv).toNat)
                        case atStart => exact ⟨0, Nat.zero_le _, rfl, rfl⟩
                        case round =>
                          obtain ⟨j, hjl, rfl, rfl⟩ := hrel
                          by_cases hjlt : j < ls.length
                          · have hjI : (j : Int) < (ls.length : Int) := by omega
                            obtain ⟨a, rfl, hab, hc⟩ := (HN7.out.below HW.out).some_ (by omega)
                            have hx := hc j hjlt
                            have hat := HWA.out m j hjlt
                            have hS := hjs.out j
                            have hyl : ((wider x m).getD j []).length ≤ 1020 := by
                              rw [List.getD_eq_getElem?_getD, List.getElem?_eq_getElem (by rw [hwl.out]; exact hjlt)]
                              exact HWZ.out m _ (List.getElem_mem _)
                            have hSs : (str (join ((wider x m).take j))).size ≤ 1021 * 16 := by
                              rw [str_size]; refine Nat.le_trans hS ?_; exact Nat.mul_le_mul_left _ (by omega)
                            have hnx : join ((wider x m).take (j + 1)) = if j = 0 then (wider x m).getD j [] else join ((wider x m).take j) ++ 47 :: (wider x m).getD j [] := by
                              by_cases h0 : j = 0
                              · subst h0; rw [if_pos rfl]; exact join_take_one _ (by rw [hwl.out]; exact hjlt)
                              · rw [if_neg h0]; exact join_take_next _ (by omega) (by rw [hwl.out]; exact hjlt)
                            have hemp : j = 0 → join ((wider x m).take j) = [] := by rintro rfl; rfl
                            have hJ := str_both (join ((wider x m).take j)) ((wider x m).getD j [])
                            have hJ0 := str_app (join ((wider x m).take j)) [47]
                            have hJ1 := str_both (join ((wider x m).take j) ++ [47]) ((wider x m).getD j [])
                            by_cases hjm : j = m
                            · have q1 : ((j : Int) == (m : Int)) = true := by simp; omega
                              rw [if_pos hjm] at hat
                              by_cases hj0 : j = 0
                              · have q0 : decide (0 < j) = false := by simp; omega
                                have HV := Lib.hid (show str (join ((wider x m).take j)) ++ ⟨#[43]⟩ = str (join ((wider x m).take (j + 1))) by
                                  rw [hnx, if_pos hj0, hemp hj0, hat]; rfl)
                                have z1 : ¬ (9223372036854775807 < (str (join ((wider x m).take j))).size + 1) := by omega
                                clear hx hc hab hat hS hyl hnx hemp hJ hJ0 hJ1 hjm hj0
                                generalize str (join ((wider x m).take j)) = S at HV hSs z1
                                go_wp2
                                go_round
                                case rel => exact ⟨j + 1, hjlt, congrArg Value.string HV.out, by go_num⟩
                                case measure => simp [RowKit.intOf]; omega
                              · have q0 : decide (0 < j) = true := by simp; omega
                                have HV := Lib.hid (show str (join ((wider x m).take j)) ++ ⟨#[47]⟩ ++ ⟨#[43]⟩ = str (join ((wider x m).take (j + 1))) by
                                  rw [hnx, if_neg hj0, hat, show str (join ((wider x m).take j)) ++ ⟨#[47]⟩ = _ from hJ0, show (⟨#[43]⟩ : ByteArray) = ⟨[43].toArray⟩ from rfl, str_app, List.append_assoc]; rfl)
                                have z1 : ¬ (9223372036854775807 < (str (join ((wider x m).take j))).size + 1) := by omega
                                have z2 : ¬ (9223372036854775807 < (str (join ((wider x m).take j))).size + 1 + 1) := by omega
                                clear hx hc hab hat hS hyl hnx hemp hJ hJ0 hJ1 hjm hj0
                                generalize str (join ((wider x m).take j)) = S at HV hSs z1 z2
                                go_wp2
                                go_round
                                case rel => exact ⟨j + 1, hjlt, congrArg Value.string HV.out, by go_num⟩
                                case measure => simp [RowKit.intOf]; omega
                            · have q1 : ((j : Int) == (m : Int)) = false := by simp; omega
                              rw [if_neg hjm] at hat
                              rw [hat] at hyl hJ hJ1 hnx
                              have hLs : (str (ls.getD j [])).size ≤ 1020 := by rw [str_size]; exact hyl
                              by_cases hj0 : j = 0
                              · have q0 : decide (0 < j) = false := by simp; omega
                                have HV := Lib.hid (show str (join ((wider x m).take j)) ++ str (ls.getD j []) = str (join ((wider x m).take (j + 1))) by
                                  rw [hJ, hnx, if_pos hj0, hemp hj0]; rfl)
                                have z1 : ¬ (9223372036854775807 < (str (join ((wider x m).take j))).size + (str (ls.getD j [])).size) := by omega
                                clear hc hab hat hS hyl hnx hemp hJ hJ0 hJ1 hjm hj0
                                generalize str (join ((wider x m).take j)) = S at HV hSs z1
                                generalize str (ls.getD j []) = Lj at HV hLs z1 hx
                                go_wp2
                                go_round
                                case rel => exact ⟨j + 1, hjlt, congrArg Value.string HV.out, by go_num⟩
                                case measure => simp [RowKit.intOf]; omega
                              · have q0 : decide (0 < j) = true := by simp; omega
                                have HV := Lib.hid (show str (join ((wider x m).take j)) ++ ⟨#[47]⟩ ++ str (ls.getD j []) = str (join ((wider x m).take (j + 1))) by
                                  rw [show str (join ((wider x m).take j)) ++ ⟨#[47]⟩ = _ from hJ0, hJ1, hnx, if_neg hj0, List.append_assoc]; rfl)
                                have z1 : ¬ (9223372036854775807 < (str (join ((wider x m).take j))).size + 1) := by omega
                                have z2 : ¬ (9223372036854775807 < (str (join ((wider x m).take j))).size + 1 + (str (ls.getD j [])).size) := by omega
                                clear hc hab hat hS hyl hnx hemp hJ hJ0 hJ1 hjm hj0
                                generalize str (join ((wider x m).take j)) = S at HV hSs z1 z2
                                generalize str (ls.getD j []) = Lj at HV hLs z2 hx
                                go_wp2
                                go_round
                                case rel => exact ⟨j + 1, hjlt, congrArg Value.string HV.out, by go_num⟩
                                case measure => simp [RowKit.intOf]; omega
                          · have hjI : ¬ ((j : Int) < (ls.length : Int)) := by omega
                            have hall : join ((wider x m).take j) = join (wider x m) := by rw [List.take_of_length_le (by rw [hwl.out]; omega)]
                            have hjl2 : (join (wider x m)).length ≤ 100000 := by
                              rw [← hall]
                              refine Nat.le_trans (hjs.out j) ?_
                              have : (1020 + 1) * j ≤ 1021 * 16 := Nat.mul_le_mul_left _ (by omega)
                              omega
                            rw [hall]
                            obtain ⟨E, hE⟩ : ∃ E, filterErr (join (wider x m)) = E := ⟨_, rfl⟩
                            have MF := Lib.hid (fun W => Filter_is (str (join (wider x m))) E W (by rw [str_size]; omega) (by rw [str_data]; exact hE))
                            by_cases hE0 : E = 0
                            · have MM := Lib.hid (NW.out m (hE.trans hE0) hjl2)
                              subst hE0
                              clear hE hall hjl2
                              generalize str (join (wider x m)) = S at MF MM ⊢
                              go_wp2_with fail
                              refine (MF.out _).mono ?_
                              rintro e w20 ⟨rfl, hb20⟩
                              have H20 := Lib.hid (HW.out.trans (hb20.mono hsz))
                              clear hb20
                              go_wp2_with (go_at_call 11; refine (num_is _ _).mono ?_; rintro e w' ⟨rfl, rfl⟩)
                              refine (MM.out _).mono ?_
                              rintro e w21 ⟨rfl, hb21⟩
                              have H21 := Lib.hid (H20.out.trans (hb21.mono H20.out.size))
                              clear hb21
                              go_wp2_with fail
                              go_roundw
                              case rel => exact ⟨m + 1, hlt, by go_num, H21.out⟩
                              case measure => simp [RowKit.intOf]; omega
                            · have q : (E == 0) = false := by rw [beq_eq_false_iff_ne]; exact hE0
                              clear hE hE0 hall hjl2
                              generalize str (join (wider x m)) = S at MF ⊢
                              go_wp2_with fail
                              refine (MF.out _).mono ?_
                              rintro e w20 ⟨rfl, hb20⟩
                              have H20 := Lib.hid (HW.out.trans (hb20.mono hsz))
                              clear hb20
                              go_wp2_with (go_at_call 11; refine (num_is _ _).mono ?_; rintro e w' ⟨rfl, rfl⟩)
                              go_roundw
                              case rel => exact ⟨m + 1, hlt, by go_num, H20.out⟩
                              case measure => simp [RowKit.intOf]; omega
                      · have hmI : ¬ ((m : Int) < (ls.length : Int)) := by omega
                        have HE := Lib.hid (H7.out.trans (HW.out.mono H7.out.size))
                        go_wp2_with fail
                        go_roundw
                        case rel => exact ⟨k + 1, h1, h2, by go_num, HE.out⟩
                        case measure => simp [RowKit.intOf]; omega
                  case false =>
                    clear hbl
                    go_wp2_with fail
                    clear NB hblI
                    go_loopw [6] (fun i wr => ∃ m : Nat, m ≤ ls.length ∧ i = .int .i64 (m : Int) ∧ Below w7.heap.size w7 wr) (fun i _ => ls.length - (RowKit.intOf i).toNat)
                    case atStart => exact ⟨0, Nat.zero_le _, rfl, Below.refl _ _⟩
                    case round =>
                      obtain ⟨m, hml, rfl, hbw⟩ := hrel
                      have HW := Lib.hid hbw
                      have hsz := hbw.size
                      clear hbw
                      by_cases hlt : m < ls.length
                      · have hmI : (m : Int) < (ls.length : Int) := by omega
                        have hjs := Lib.hid (fun j => join_take_size (wider x m) 1020 j (HWZ.out m))
                        have hwl := Lib.hid (HWL.out m)
                        go_wp2_with fail
                        go_loop [7, 8] (fun sv jv => ∃ j : Nat, j ≤ ls.length ∧ sv = .string (str (join ((wider x m).take j))) ∧ jv = .int .i64 (j : Int)) (fun _ jv => ls.length - (RowKit.intOf jv).toNat)
                        case atStart => exact ⟨0, Nat.zero_le _, rfl, rfl⟩
                        case round =>
                          obtain ⟨j, hjl, rfl, rfl⟩ := hrel
                          by_cases hjlt : j < ls.length
                          · have hjI : (j : Int) < (ls.length : Int) := by omega
                            obtain ⟨a, rfl, hab, hc⟩ := (HN7.out.below HW.out).some_ (by omega)
                            have hx := hc j hjlt
                            have hat := HWA.out m j hjlt
                            have hS := hjs.out j
                            have hyl : ((wider x m).getD j []).length ≤ 1020 := by
                              rw [List.getD_eq_getElem?_getD, List.getElem?_eq_getElem (by rw [hwl.out]; exact hjlt)]
                              exact HWZ.out m _ (List.getElem_mem _)
                            have hSs : (str (join ((wider x m).take j))).size ≤ 1021 * 16 := by
                              rw [str_size]; refine Nat.le_trans hS ?_; exact Nat.mul_le_mul_left _ (by omega)
                            have hnx : join ((wider x m).take (j + 1)) = if j = 0 then (wider x m).getD j [] else join ((wider x m).take j) ++ 47 :: (wider x m).getD j [] := by
                              by_cases h0 : j = 0
                              · subst h0; rw [if_pos rfl]; exact join_take_one _ (by rw [hwl.out]; exact hjlt)
                              · rw [if_neg h0]; exact join_take_next _ (by omega) (by rw [hwl.out]; exact hjlt)
                            have hemp : j = 0 → join ((wider x m).take j) = [] := by rintro rfl; rfl
                            have hJ := str_both (join ((wider x m).take j)) ((wider x m).getD j [])
                            have hJ0 := str_app (join ((wider x m).take j)) [47]
                            have hJ1 := str_both (join ((wider x m).take j) ++ [47]) ((wider x m).getD j [])
                            by_cases hjm : j = m
                            · have q1 : ((j : Int) == (m : Int)) = true := by simp; omega
                              rw [if_pos hjm] at hat
                              by_cases hj0 : j = 0
                              · have q0 : decide (0 < j) = false := by simp; omega
                                have HV := Lib.hid (show str (join ((wider x m).take j)) ++ ⟨#[43]⟩ = str (join ((wider x m).take (j + 1))) by
                                  rw [hnx, if_pos hj0, hemp hj0, hat]; rfl)
                                have z1 : ¬ (9223372036854775807 < (str (join ((wider x m).take j))).size + 1) := by omega
                                clear hx hc hab hat hS hyl hnx hemp hJ hJ0 hJ1 hjm hj0
                                generalize str (join ((wider x m).take j)) = S at HV hSs z1
                                go_wp2
                                go_round
                                case rel => exact ⟨j + 1, hjlt, congrArg Value.string HV.out, by go_num⟩
                                case measure => simp [RowKit.intOf]; omega
                              · have q0 : decide (0 < j) = true := by simp; omega
                                have HV := Lib.hid (show str (join ((wider x m).take j)) ++ ⟨#[47]⟩ ++ ⟨#[43]⟩ = str (join ((wider x m).take (j + 1))) by
                                  rw [hnx, if_neg hj0, hat, show str (join ((wider x m).take j)) ++ ⟨#[47]⟩ = _ from hJ0, show (⟨#[43]⟩ : ByteArray) = ⟨[43].toArray⟩ from rfl, str_app, List.append_assoc]; rfl)
                                have z1 : ¬ (9223372036854775807 < (str (join ((wider x m).take j))).size + 1) := by omega
                                have z2 : ¬ (9223372036854775807 < (str (join ((wider x m).take j))).size + 1 + 1) := by omega
                                clear hx hc hab hat hS hyl hnx hemp hJ hJ0 hJ1 hjm hj0
                                generalize str (join ((wider x m).take j)) = S at HV hSs z1 z2
                                go_wp2
                                go_round
                                case rel => exact ⟨j + 1, hjlt, congrArg Value.string HV.out, by go_num⟩
                                case measure => simp [RowKit.intOf]; omega
                            · have q1 : ((j : Int) == (m : Int)) = false := by simp; omega
                              rw [if_neg hjm] at hat
                              rw [hat] at hyl hJ hJ1 hnx
                              have hLs : (str (ls.getD j [])).size ≤ 1020 := by rw [str_size]; exact hyl
                              by_cases hj0 : j = 0
                              · have q0 : decide (0 < j) = false := by simp; omega
                                have HV := Lib.hid (show str (join ((wider x m).take j)) ++ str (ls.getD j []) = str (join ((wider x m).take (j + 1))) by
                                  rw [hJ, hnx, if_pos hj0, hemp hj0]; rfl)
                                have z1 : ¬ (9223372036854775807 < (str (join ((wider x m).take j))).size + (str (ls.getD j [])).size) := by omega
                                clear hc hab hat hS hyl hnx hemp hJ hJ0 hJ1 hjm hj0
                                generalize str (join ((wider x m).take j)) = S at HV hSs z1
                                generalize str (ls.getD j []) = Lj at HV hLs z1 hx
                                go_wp2
                                go_round
                                case rel => exact ⟨j + 1, hjlt, congrArg Value.string HV.out, by go_num⟩
                                case measure => simp [RowKit.intOf]; omega
                              · have q0 : decide (0 < j) = true := by simp; omega
                                have HV := Lib.hid (show str (join ((wider x m).take j)) ++ ⟨#[47]⟩ ++ str (ls.getD j []) = str (join ((wider x m).take (j + 1))) by
                                  rw [show str (join ((wider x m).take j)) ++ ⟨#[47]⟩ = _ from hJ0, hJ1, hnx, if_neg hj0, List.append_assoc]; rfl)
                                have z1 : ¬ (9223372036854775807 < (str (join ((wider x m).take j))).size + 1) := by omega
                                have z2 : ¬ (9223372036854775807 < (str (join ((wider x m).take j))).size + 1 + (str (ls.getD j [])).size) := by omega
                                clear hc hab hat hS hyl hnx hemp hJ hJ0 hJ1 hjm hj0
                                generalize str (join ((wider x m).take j)) = S at HV hSs z1 z2
                                generalize str (ls.getD j []) = Lj at HV hLs z2 hx
                                go_wp2
                                go_round
                                case rel => exact ⟨j + 1, hjlt, congrArg Value.string HV.out, by go_num⟩
                                case measure => simp [RowKit.intOf]; omega
                          · have hjI : ¬ ((j : Int) < (ls.length : Int)) := by omega
                            have hall : join ((wider x m).take j) = join (wider x m) := by rw [List.take_of_length_le (by rw [hwl.out]; omega)]
                            have hjl2 : (join (wider x m)).length ≤ 100000 := by
                              rw [← hall]
                              refine Nat.le_trans (hjs.out j) ?_
                              have : (1020 + 1) * j ≤ 1021 * 16 := Nat.mul_le_mul_left _ (by omega)
                              omega
                            rw [hall]
                            obtain ⟨E, hE⟩ : ∃ E, filterErr (join (wider x m)) = E := ⟨_, rfl⟩
                            have MF := Lib.hid (fun W => Filter_is (str (join (wider x m))) E W (by rw [str_size]; omega) (by rw [str_data]; exact hE))
                            by_cases hE0 : E = 0
                            · have MM := Lib.hid (NW.out m (hE.trans hE0) hjl2)
                              subst hE0
                              clear hE hall hjl2
                              generalize str (join (wider x m)) = S at MF MM ⊢
                              go_wp2_with fail
                              refine (MF.out _).mono ?_
                              rintro e w20 ⟨rfl, hb20⟩
                              have H20 := Lib.hid (HW.out.trans (hb20.mono hsz))
                              clear hb20
                              go_wp2_with (go_at_call 11; refine (num_is _ _).mono ?_; rintro e w' ⟨rfl, rfl⟩)
                              refine (MM.out _).mono ?_
                              rintro e w21 ⟨rfl, hb21⟩
                              have H21 := Lib.hid (H20.out.trans (hb21.mono H20.out.size))
                              clear hb21
                              go_wp2_with fail
                              go_roundw
                              case rel => exact ⟨m + 1, hlt, by go_num, H21.out⟩
                              case measure => simp [RowKit.intOf]; omega
                            · have q : (E == 0) = false := by rw [beq_eq_false_iff_ne]; exact hE0
                              clear hE hE0 hall hjl2
                              generalize str (join (wider x m)) = S at MF ⊢
                              go_wp2_with fail
                              refine (MF.out _).mono ?_
                              rintro e w20 ⟨rfl, hb20⟩
                              have H20 := Lib.hid (HW.out.trans (hb20.mono hsz))
                              clear hb20
                              go_wp2_with (go_at_call 11; refine (num_is _ _).mono ?_; rintro e w' ⟨rfl, rfl⟩)
                              go_roundw
                              case rel => exact ⟨m + 1, hlt, by go_num, H20.out⟩
                              case measure => simp [RowKit.intOf]; omega
                      · have hmI : ¬ ((m : Int) < (ls.length : Int)) := by omega
                        have HE := Lib.hid (H7.out.trans (HW.out.mono H7.out.size))
                        go_wp2_with fail
                        go_roundw
                        case rel => exact ⟨k + 1, h1, h2, by go_num, HE.out⟩
                        case measure => simp [RowKit.intOf]; omega
            · have q : (E != 0) = true := by rw [bne_iff_ne]; exact hE0
              clear hE hE0 hem hd hts hh
              go_wp2_with (first | (go_at_call 7; refine (HH.out _).mono ?_; rintro e w1 ⟨rfl, hb1⟩) | (go_at_call 12; refine (MT.out _).mono ?_; rintro e w2 ⟨rfl, hb2⟩) | (go_at_call 11; refine (num_is _ _).mono ?_; rintro e w' ⟨rfl, rfl⟩))
              go_roundw
              case rel =>
                have hx1 := HX.out.trans (hb1.mono HX.out.size)
                exact ⟨k + 1, h1, h2, by go_num, hx1.trans (hb2.mono hx1.size)⟩
              case measure => simp [RowKit.intOf]; omega
    · go_wp2_with (go_at_call 19; refine (wakes_is _).mono ?_; rintro e w1 ⟨rfl, hb1⟩)
      all_goals (go_ret; exact ⟨rfl, hnx.trans (hb1.mono hnx.size)⟩)
end Go.Proofs.Ytpmcfnancbbgoaa
