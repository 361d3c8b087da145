import Derived.Test.YtoddffpbbnicpaaRvN
import Derived.Deep.CutBlock
import Derived.Deep.CutRange
import Derived.Deep.DeepCutAuto
namespace Go.Proofs
open Go.RowKit
set_option linter.unusedVariables false

/-- Behind the act itself: who went, and who is there; nobody has been told off yet. -/
def Mids (w0 wz : World) (q g h M t : Nat) (v : Value) : Prop :=
  ∃ X L N A c, v = .slice A X.length c ∧ GoneK w0 wz q g h M t v X L N 0
theorem GoneK.mid {w0 w : World} {q g h M t : Nat} {v : Value} {X L : List Int} {N : Option Int} (H : GoneK w0 w q g h M t v X L N 0) : Mids w0 w q g h M t v := by
  obtain ⟨A, c, hv, _⟩ := H.rd
  exact ⟨X, L, N, A, c, hv, H⟩
theorem GoneK.few {w0 w : World} {q g h M t : Nat} {v : Value} {X L : List Int} {N : Option Int} (H : GoneK w0 w q g h M t v X L N 0) : X.length ≤ 100 := by
  have h1 := cnt_all H.nd H.in0
  have h2 := cnt_le (X.drop 0 ++ (N.toList ++ L)) 100
  rw [h1, List.drop_zero, List.length_append] at h2
  omega
theorem made_zero (M : Nat) : (madeCells (Value.int .i64 0).cells (M * 1)).toList = ints (List.replicate M 0) := by
  refine List.ext_getElem? fun k => ?_
  by_cases hk : k < M
  · simp [madeCells, ints, hk, Value.cells, Nat.mod_one]
  · rw [List.getElem?_eq_none (by simp [madeCells, Value.cells]; omega), List.getElem?_eq_none (by simp [ints]; omega)]
theorem OnceB.made {w0 w1 w2 : World} {q g h M : Nat} (H : QMade M [] none q g h w0 w1) (ho : w2.ownsRow w1.heap.size 3 1 (.slice (some ⟨w1.heap.size, 0, none⟩) 100 100) 100 (madeCells (Value.int .i64 0).cells (100 * 1)).toList) (hg : w1.grownBy w2 none) : OnceB w0 w2 q g h M w1.heap.size [] none := by
  have hc : Chg [] w1 w2 := (Chg.refl [] w1).grown hg (fun k hk => by cases hk)
  have e : (madeCells (Value.int .i64 0).cells (100 * 1)).toList = ints (thL []) := by rw [thL_nil]; exact made_zero 100
  have hr := Row.of_own ho
  rw [e] at hr
  have hlt := H.1.lt
  exact ⟨H.1.quiet hc, hr, H.2.1, H.2.2.size, (fun hm => by have := hlt _ hm; omega), H.2.2.then hc, Rd.nil _, (fun h => by cases h), by simp, by simp⟩
theorem mem_one {x : Int} {B : List Int} : ((if x ∈ B then (1 : Int) else 0) == 1) = decide (x ∈ B) := by
  by_cases h : x ∈ B <;> simp [h]
theorem hasQ_dec (L : List Int) (N : Option Int) (x : Int) : hasQ L N x = decide (x ∈ N.toList ++ L) := by
  by_cases h : x ∈ N.toList ++ L
  · rw [decide_eq_true h]; exact hasQ_mem.2 h
  · rw [decide_eq_false h]
    have : ¬ hasQ L N x = true := fun h9 => h (hasQ_mem.1 h9)
    simpa using this
set_option maxRecDepth 100000 in
set_option maxHeartbeats 102400000 in
theorem once_any (most : Int) (V1 : Value) (l : List ActV) (w : World) (hV1 : Acts w w.heap.size V1 l) :
    Calls Try.prog 4 #[.int .i64 most, V1] w fun e w' => e = .returned (.bool true) ∧ Chg [] w w' := by
  obtain ⟨i0, hi0, hz0, hz1, hz2⟩ := info_parts Try.num_info
  have hfew : ∀ W, Chg [] w W → Calls Try.prog 7 #[V1, .int .i64 150] W fun e w' => e = .returned (.bool (fewB l 150)) ∧ W = w' := fun W hW => few_any (hV1.quiet hW) 150 (by omega)
  have hmay := maycall_any most
  obtain ⟨A1, c1, rfl, _⟩ := hV1.2
  obtain ⟨F, hF⟩ : ∃ F, F = fewB l 150 := ⟨_, rfl⟩
  obtain ⟨B, hB⟩ : ∃ B, B = mayB most := ⟨_, rfl⟩
  rw [← hF] at hfew
  rw [← hB] at hmay
  obtain ⟨m1, hm1⟩ : ∃ m, m = l.length := ⟨_, rfl⟩
  rw [← hm1] at hV1 hfew ⊢
  have HV1 := Lib.hid hV1
  cases B with
  | false =>
    have HN := qnew_no most w (mayB_no hB.symm)
    clear hF hB hV1 hm1
    cases F with
    | false =>
      go_enter Try.func4, Try.ntmps4
      go_wp2_with (first
        | (go_at_call 9; refine HN.mono ?_; rintro e w' ⟨rfl, rfl⟩)
        | (go_at_call 7; refine (hfew _ (Chg.refl _ _)).mono ?_; rintro e w' ⟨rfl, rfl⟩)
        | (go_at_call 10; refine (hmay _).mono ?_; rintro e w' ⟨rfl, rfl⟩)
        | (go_at_call 8; refine (known_any _).mono ?_; rintro e w9 ⟨rfl, hc⟩))
      go_ret
      exact ⟨rfl, hc⟩
    | true =>
      go_enter Try.func4, Try.ntmps4
      go_wp2_with (first
        | (go_at_call 9; refine HN.mono ?_; rintro e w' ⟨rfl, rfl⟩)
        | (go_at_call 7; refine (hfew _ (Chg.refl _ _)).mono ?_; rintro e w' ⟨rfl, rfl⟩)
        | (go_at_call 10; refine (hmay _).mono ?_; rintro e w' ⟨rfl, rfl⟩)
        | (go_at_call 8; refine (known_any _).mono ?_; rintro e w9 ⟨rfl, hc⟩))
      go_ret
      exact ⟨rfl, hc⟩
  | true =>
    obtain ⟨b2, b4⟩ := mayB_yes hB.symm
    obtain ⟨M, rfl⟩ := Int.eq_ofNat_of_zero_le (by omega : 0 ≤ most)
    have HN := qnew_ok M w (by omega) (by omega)
    cases F with
    | false =>
      clear hF hB hV1 hm1 b2 b4
      go_enter Try.func4, Try.ntmps4
      go_wp2_with (first
        | (go_at_call 9; refine HN.mono ?_; rintro e w1 ⟨q, g, h, rfl, hM⟩; have HM1 := Lib.hid hM.2.2; clear hM)
        | (go_at_call 7; refine (hfew _ HM1.out).mono ?_; rintro e w' ⟨rfl, rfl⟩)
        | (go_at_call 10; refine (hmay _).mono ?_; rintro e w' ⟨rfl, rfl⟩)
        | (go_at_call 8; refine (known_any _).mono ?_; rintro e w9 ⟨rfl, hc⟩))
      go_ret
      exact ⟨rfl, HM1.out.then hc⟩
    | true =>
      have hs1 := fewB_len hF.symm
      rw [← hm1] at hs1
      have hM4 : M ≤ 4096 := by omega
      clear hF hB hV1 hm1 b2 b4
      go_enter Try.func4, Try.ntmps4
      go_wp2_with (first
        | (go_at_call 9; refine HN.mono ?_; rintro e w1 ⟨q, g, h, rfl, hM⟩; have HM1 := Lib.hid hM; clear hM)
        | (go_at_call 7; refine (hfew _ HM1.out.2.2).mono ?_; rintro e w' ⟨rfl, rfl⟩)
        | (go_at_call 10; refine (hmay _).mono ?_; rintro e w' ⟨rfl, rfl⟩)
        | (refine wpList_make_full _ rfl _ _ 38 rfl w1.heap.size 3 i0 (.int .i64 0) 1 Try.underlying38 hi0 hz0 hz1 .i64 .i64 _ _ 100 rfl rfl rfl rfl (by rw [hz2]; omega) (by unfold maxLen; omega) (Nat.le_refl _) ?_; intro w2 hown hgrow; have HO0 := Lib.hid (OnceB.made HM1.out hown hgrow); clear hown hgrow))
      generalize ht : w1.heap.size = t at HO0 ⊢
      clear ht
      go_loopg [8] m1 (fun n s8 wx => ∃ i : Nat, i + n = m1 ∧ s8 = .int .i64 i ∧ Hid (∃ L N, OnceB w wx q g h M t L N))
      case atStart => exact ⟨0, by omega, rfl, Lib.hid ⟨_, _, HO0.out⟩⟩
      case round =>
        clear HO0
        obtain ⟨i, hin, rfl, HO⟩ := hrel
        cases gk with
        | zero =>
          obtain rfl : i = m1 := by omega
          have HC := Lib.hid (HO.out.choose_spec.choose_spec.chg)
          clear HO
          go_wp2_with (go_at_call 8; refine (known_any _).mono ?_; rintro e w4 ⟨rfl, hc⟩)
          (try rw [Exit.noGoto_ret])
          go_ret
          exact ⟨rfl, HC.out.then hc⟩
        | succ n =>
          obtain ⟨L, N, hO⟩ := HO.out
          have HOO := Lib.hid hO
          obtain ⟨b, off, kind, G, yes, A2, n2, c2, rfl, hfit, d0, d1, d2, d3⟩ := HV1.out.at_ hO.chg (k := i) (by omega)
          have i0' : (0 : Int) ≤ (i : Int) := by omega
          have i1 : (i : Int) < (m1 : Int) := by omega
          have HFT := Lib.hid hfit
          clear HO hO hfit
          by_cases hG0 : G < 0
          · go_wp2
            go_roundg n
            case measure => omega
            case rel => exact ⟨i + 1, by omega, by go_num, Lib.hid ⟨L, N, HOO.out.quiet ((Chg.refl _ _).alloc _)⟩⟩
          · by_cases hG9 : 99 < G
            · go_wp2
              go_roundg n
              case measure => omega
              case rel => exact ⟨i + 1, by omega, by go_num, Lib.hid ⟨L, N, HOO.out.quiet ((Chg.refl _ _).alloc _)⟩⟩
            · obtain ⟨x, rfl⟩ := Int.eq_ofNat_of_zero_le (by omega : 0 ≤ G)
              have hx : x < 100 := by omega
              obtain ⟨O1, O2, O3, O4⟩ := HOO.out.plain
              have hxc := HOO.out.cell x hx
              have HLT := Lib.hid O1.lt
              have HNT := Lib.hid HOO.out.newt
              have HNW := Lib.hid HOO.out.new
              have HAP := Lib.hid HOO.out.apart
              have HCH := Lib.hid HOO.out.chg
              have htl := O2.lt t (by simp [foot_some])
              have HO1 := Lib.hid O1
              have HO2 := Lib.hid O2
              have HO3 := Lib.hid O3
              have HO4 := Lib.hid O4
              have HFI := Lib.hid (fun wa wb v X L' N' (ha : Chg [] wr wa) (hT : QTurn q g h M v X L' N' wa wb) (hp : (X ++ (N'.toList ++ L')).Perm (N.toList ++ L)) => GoneK.mid (GoneK.make (O1.quiet ha) (O2.chg ha (fun _ _ h => by cases h)) HNW.out HNT.out HAP.out (HCH.out.then ha) hT hp O3 O4))
              clear O1 O2 O3 O4
              go_upto_block 2 with fail
              go_cut [10, 11, 12, 13, 14] from 51 to 194 (fun s10 s11 s12 s13 s14 wc => Hid (Mids w wc q g h M t s10))
              case first =>
                by_cases hk1 : kind = 1
                · subst hk1
                  by_cases hm : (x : Int) ∈ N.toList ++ L
                  · rw [if_pos hm] at hxc
                    have e1 : ∀ o : Obj, (wr.alloc o).cell? ⟨t, x, none⟩ = some (.int .i64 1) := fun o => (World.cell?_alloc_past o _ _ htl).trans hxc.1
                    clear hxc
                    go_wp2
                    go_roundg n
                    case measure => omega
                    case rel => exact ⟨i + 1, by omega, by go_num, Lib.hid ⟨L, N, HOO.out.quiet ((Chg.refl _ _).alloc _)⟩⟩
                  · rw [if_neg hm] at hxc
                    have e1 : ∀ o : Obj, (wr.alloc o).cell? ⟨t, x, none⟩ = some (.int .i64 0) := fun o => (World.cell?_alloc_past o _ _ htl).trans hxc.1
                    have e2 : ∀ o : Obj, (wr.alloc o).frozen? ⟨t, x, none⟩ = false := fun o => (((Chg.refl [] wr).alloc o).frozen (p := ⟨t, x, none⟩) htl (by simp)).trans hxc.2
                    obtain ⟨p1, p2, p3⟩ := HOO.out.comes hx (Chg.refl _ _)
                    have hput := put_any (p1.quiet ((Chg.refl _ _).alloc (.cells #[.int .i64 1, .int .i64 (x : Nat), .bool yes, .slice A2 n2 c2] 35))) (x : Int)
                    have HMK := Lib.hid (fun w3 v (hT : QTurn q g h M v (putS M L x) (putL M L x) (N) ((wr.setCell ⟨t, x, none⟩ (.int .i64 1)).alloc (.cells #[.int .i64 1, .int .i64 (x : Nat), .bool yes, .slice A2 n2 c2] 35)) w3) => GoneK.mid (GoneK.make (p1.quiet ((Chg.refl _ _).alloc _)) (p2.chg ((Chg.refl [] _).alloc _) (fun _ _ h => by cases h)) HNW.out HNT.out HAP.out (p3.alloc _) hT (put_perm M L N x) (List.nodup_cons.2 ⟨hm, HO3.out⟩) (fun y hy => by
                      rcases List.mem_cons.1 hy with rfl | h9
                      · omega
                      · exact HO4.out y h9)))
                    clear hxc p1 p2 p3
                    have hnt : wr.heap.size ≠ t := by omega
                    go_wp2_with (go_at_call 14; refine hput.mono ?_; rintro e w3 ⟨v, rfl, hT⟩; have HMid := Lib.hid (HMK.out _ _ hT); clear hT)
                    go_meet
                    exact HMid
                by_cases hk2 : kind = 2
                · subst hk2
                  by_cases hm : (x : Int) ∈ N.toList ++ L
                  · rw [if_pos hm] at hxc
                    have e1 : ∀ o : Obj, (wr.alloc o).cell? ⟨t, x, none⟩ = some (.int .i64 1) := fun o => (World.cell?_alloc_past o _ _ htl).trans hxc.1
                    clear hxc
                    go_wp2
                    go_roundg n
                    case measure => omega
                    case rel => exact ⟨i + 1, by omega, by go_num, Lib.hid ⟨L, N, HOO.out.quiet ((Chg.refl _ _).alloc _)⟩⟩
                  · rw [if_neg hm] at hxc
                    have e1 : ∀ o : Obj, (wr.alloc o).cell? ⟨t, x, none⟩ = some (.int .i64 0) := fun o => (World.cell?_alloc_past o _ _ htl).trans hxc.1
                    have e2 : ∀ o : Obj, (wr.alloc o).frozen? ⟨t, x, none⟩ = false := fun o => (((Chg.refl [] wr).alloc o).frozen (p := ⟨t, x, none⟩) htl (by simp)).trans hxc.2
                    obtain ⟨p1, p2, p3⟩ := HOO.out.comes hx (Chg.refl _ _)
                    have hput := putNext_any (p1.quiet ((Chg.refl _ _).alloc (.cells #[.int .i64 2, .int .i64 (x : Nat), .bool yes, .slice A2 n2 c2] 35))) (x : Int)
                    have HMK := Lib.hid (fun w3 v (hT : QTurn q g h M v (kickS M L N) (kickL M L N) (some (x : Int)) ((wr.setCell ⟨t, x, none⟩ (.int .i64 1)).alloc (.cells #[.int .i64 2, .int .i64 (x : Nat), .bool yes, .slice A2 n2 c2] 35)) w3) => GoneK.mid (GoneK.make (p1.quiet ((Chg.refl _ _).alloc _)) (p2.chg ((Chg.refl [] _).alloc _) (fun _ _ h => by cases h)) HNW.out HNT.out HAP.out (p3.alloc _) hT (putNext_perm M L N x) (List.nodup_cons.2 ⟨hm, HO3.out⟩) (fun y hy => by
                      rcases List.mem_cons.1 hy with rfl | h9
                      · omega
                      · exact HO4.out y h9)))
                    clear hxc p1 p2 p3
                    have hnt : wr.heap.size ≠ t := by omega
                    go_wp2_with (go_at_call 15; refine hput.mono ?_; rintro e w3 ⟨v, rfl, hT⟩; have HMid := Lib.hid (HMK.out _ _ hT); clear hT)
                    go_meet
                    exact HMid
                by_cases hk3 : kind = 3
                · subst hk3
                  have hqq := HO1.out.quiet ((Chg.refl _ _).alloc (.cells #[.int .i64 3, .int .i64 (x : Nat), .bool yes, .slice A2 n2 c2] 35))
                  have HLQ := Lib.hid hqq.lt
                  have hL4 := hqq.small
                  by_cases hb : (yes && N.isSome) = false
                  · have htk := take_ring hqq yes hb
                    have HPK := Lib.hid (kick_perm M L N)
                    have HPT := Lib.hid (fun z K h => take_perm (M := M) (L := L) (N := N) (z := z) (K := K) h)
                    have HKS := Lib.hid (kickS_len M L N (by omega))
                    obtain ⟨K, hK⟩ : ∃ K, K = kickL M L N := ⟨_, rfl⟩
                    rw [← hK] at htk HPK HPT
                    obtain ⟨X0, hX0⟩ : ∃ X, X = kickS M L N := ⟨_, rfl⟩
                    rw [← hX0] at htk HPK HPT HKS
                    cases K with
                    | nil =>
                      simp only [List.headD_nil, ne_eq, not_true_eq_false, decide_false, List.tail_nil] at htk
                      have HPM := Lib.hid (show (X0 ++ ((none : Option Int).toList ++ [])).Perm (N.toList ++ L) by simpa using HPK.out)
                      clear hK hX0 hqq hb
                      go_wp2_with (go_at_call 16; refine htk.mono ?_; rintro e w3 ⟨v, rfl, hT⟩; have HMid := Lib.hid (HFI.out _ _ _ _ _ _ ((Chg.refl _ _).alloc _) hT HPM.out); clear hT)
                      go_meet
                      exact HMid
                    | cons z K' =>
                      simp only [List.headD_cons, ne_eq, reduceCtorEq, not_false_eq_true, decide_true, List.tail_cons] at htk
                      have HPM := Lib.hid (HPT.out z K' rfl)
                      clear hK hX0 hqq hb
                      go_wp2_with (first
                        | (go_at_call 16; refine htk.mono ?_; rintro e w3 ⟨v, rfl, hT⟩; have HT := Lib.hid hT; clear hT)
                        | (at_builtin; refine wpList_append_rd _ rfl _ _ rfl (by rfl) (by rfl) (HT.out.2.1.chg (S := []) ((Chg.refl _ _).alloc _) (fun _ _ h => by cases h)) (Rd.one _ _) (by have := HKS.out; simp only [List.length_cons, List.length_nil]; omega) ?_; intro v' w6 hr6 hg6 hf6; have hT6 := QTurn.append HT.out HLQ.out ((Chg.refl _ _).alloc _) hr6 hg6 hf6; have HMid := Lib.hid (HFI.out _ _ _ _ _ _ ((Chg.refl _ _).alloc _) hT6 HPM.out); clear hr6 hg6 hf6 hT6))
                      go_meet
                      exact HMid
                  · obtain ⟨hb1, hb2⟩ : yes = true ∧ N.isSome = true := by
                      rw [Bool.not_eq_false, Bool.and_eq_true] at hb
                      exact hb
                    subst hb1
                    cases N with
                    | none => cases hb2
                    | some z =>
                      have htk := take_next hqq
                      have HKS := Lib.hid (show ([] : List Int).length ≤ 8192 by simp)
                      have HPM := Lib.hid (show (([] ++ [z]) ++ ((none : Option Int).toList ++ L)).Perm ((some z : Option Int).toList ++ L) by simp)
                      clear hqq hb hb2
                      go_wp2_with (first
                        | (go_at_call 16; refine htk.mono ?_; rintro e w3 ⟨rfl, hQ, hc⟩; have HT := Lib.hid (QTurn.none_ hQ hc); clear hQ hc)
                        | (at_builtin; refine wpList_append_rd (xs := []) _ rfl _ _ rfl (by rfl) (by rfl) (HT.out.2.1.chg (S := []) ((Chg.refl _ _).alloc _) (fun _ _ h => by cases h)) (Rd.one _ _) (by have := HKS.out; simp only [List.length_cons, List.length_nil]; omega) ?_; intro v' w6 hr6 hg6 hf6; have hT6 := QTurn.append HT.out HLQ.out ((Chg.refl _ _).alloc _) hr6 hg6 hf6; have HMid := Lib.hid (HFI.out _ _ _ _ _ _ ((Chg.refl _ _).alloc _) hT6 HPM.out); clear hr6 hg6 hf6 hT6))
                      go_meet
                      exact HMid
                by_cases hk4 : kind = 4
                · subst hk4
                  have hrm := qremove_any (HO1.out.quiet ((Chg.refl _ _).alloc (.cells #[.int .i64 4, .int .i64 (x : Nat), .bool yes, .slice A2 n2 c2] 35))) (x : Int)
                  obtain ⟨Z, hZ⟩ : ∃ Z, Z = hasQ L N x := ⟨_, rfl⟩
                  rw [← hZ] at hrm
                  cases Z with
                  | true =>
                    have HPM := Lib.hid (remove_perm hZ.symm)
                    clear hZ
                    go_wp2_with (go_at_call 17; refine hrm.mono ?_; rintro e w3 ⟨rfl, hQ, hc⟩; have hbx := ((Blk.new wr 35 #[.int .i64 4, .int .i64 (x : Nat), .bool yes, .slice A2 n2 c2]).chg hc (fun hm => by have := HLT.out _ hm; omega)).cell 1; have HMid := Lib.hid (HFI.out _ _ _ _ _ _ ((Chg.refl _ _).alloc _) (QTurn.one (x := (x : Int)) hQ hc) HPM.out); clear hQ hc)
                    go_meet
                    exact HMid
                  | false =>
                    have HPM := Lib.hid (show ([] ++ ((remN N x).toList ++ remL L N x)).Perm (N.toList ++ L) from remove_perm_no hZ.symm)
                    clear hZ
                    go_wp2_with (go_at_call 17; refine hrm.mono ?_; rintro e w3 ⟨rfl, hQ, hc⟩; have HMid := Lib.hid (HFI.out _ _ _ _ _ _ ((Chg.refl _ _).alloc _) (QTurn.none_ hQ hc) HPM.out); clear hQ hc)
                    go_meet
                    exact HMid
                by_cases hk6 : kind = 6
                · subst hk6
                  have hst := qsteal_any (p := (x : Int)) (HO1.out.quiet ((Chg.refl _ _).alloc (.cells #[.int .i64 6, .int .i64 (x : Nat), .bool yes, .slice A2 n2 c2] 35))) ((HFT.out.bs.quiet HCH.out).quiet ((Chg.refl _ _).alloc _)) (HFT.out.far.imp id (fun hh j hj hm => by have h1 := hh j hj; have h2 := HNW.out j hm; omega))
                  have HPM := Lib.hid (stealQ_perm (mayP ((l[i]?.getD ⟨0, 0, false, [], .slice none 0 0⟩).aff) (x : Int)) L N)
                  go_wp2_with (go_at_call 18; refine hst.mono ?_; rintro e w3 ⟨v, rfl, hT⟩; have HMid := Lib.hid (HFI.out _ _ _ _ _ _ ((Chg.refl _ _).alloc _) hT HPM.out); clear hT)
                  go_meet
                  exact HMid
                have e1 : (kind == 1) = false := by simpa using hk1
                have e2 : (kind == 2) = false := by simpa using hk2
                have e3 : (kind == 3) = false := by simpa using hk3
                have e4 : (kind == 4) = false := by simpa using hk4
                have e6 : (kind == 6) = false := by simpa using hk6
                have HMid := Lib.hid (HFI.out _ _ _ _ _ _ (Chg.refl _ _) (QTurn.none_ (HO1.out.quiet ((Chg.refl _ _).alloc (.cells #[.int .i64 kind, .int .i64 (x : Nat), .bool yes, .slice A2 n2 c2] 35))) ((Chg.refl _ _).alloc _)) (List.Perm.refl _))
                go_wp2
                go_meet
                exact HMid
              case rest =>
                have HMid := hcut
                clear hcut
                obtain ⟨X, L9, N9, A9, c9, rfl, hK⟩ := HMid.out
                have hX100 := hK.few
                obtain ⟨n9, hn9⟩ : ∃ n, n = X.length := ⟨_, rfl⟩
                rw [← hn9] at hK hX100 ⊢
                have HK := Lib.hid hK
                have HX9 := Lib.hid hn9
                clear hK hn9 HMid
                go_wp2
                go_loopg [15] n9 (fun n2 s15 wy => ∃ k : Nat, k + n2 = n9 ∧ s15 = .int .i64 k ∧ Hid (GoneK w wy q g h M t (.slice A9 n9 c9) X L9 N9 k))
                case atStart => exact ⟨0, by omega, rfl, HK⟩
                case round =>
                  clear HK
                  obtain ⟨k, hkn, rfl, HK⟩ := hrel
                  cases gk with
                  | zero =>
                    obtain rfl : k = n9 := by omega
                    have HE := Lib.hid (GoneK.end_ (HX9.out ▸ HK.out))
                    clear HK
                    go_wp2
                    go_loopg [16, 17] 100 (fun n3 s16 s17 wq => ∃ j : Nat, j + n3 = 100 ∧ s17 = .int .i64 j ∧ s16 = .int .i64 (cnt (N9.toList ++ L9) j : Nat) ∧ Hid (OnceB w wq q g h M t L9 N9))
                    case atStart => exact ⟨0, by omega, rfl, rfl, HE⟩
                    case round =>
                      clear HE
                      obtain ⟨j, hjn, rfl, rfl, HE⟩ := hrel
                      cases gk with
                      | zero =>
                        obtain rfl : j = 100 := by omega
                        have hq := HE.out.plain.1
                        have hcn := cnt_all HE.out.plain.2.2.1 HE.out.plain.2.2.2
                        have hlen := qlen_any hq
                        have hsm := hq.small
                        have hle : (allQ L9 N9).length ≤ M + 1 := by
                          unfold allQ
                          rw [List.length_append]
                          have : N9.toList.length ≤ 1 := by cases N9 <;> simp
                          omega
                        rw [hcn]
                        unfold allQ at hlen hle
                        obtain ⟨D, hD⟩ : ∃ D, D = (N9.toList ++ L9).length := ⟨_, rfl⟩
                        rw [← hD] at hlen hle ⊢
                        have e1 : ((D : Int) != (D : Int)) = false := by simp
                        have e2 : ¬ ((M : Int) + 1 < (D : Int)) := by omega
                        clear hq hcn hsm hD
                        go_wp2_with (go_at_call 20; refine hlen.mono ?_; rintro e w' ⟨rfl, rfl⟩)
                        go_roundg n
                        case measure => omega
                        case rel => exact ⟨i + 1, by omega, by go_num, Lib.hid ⟨L9, N9, HE.out⟩⟩
                      | succ n3 =>
                        have hjc := HE.out.cell j (by omega)
                        have hcl := fun W (hW : Chg [] wr W) => qhas_any (HE.out.plain.1.quiet hW) (j : Int)
                        have hjl : ∀ W, Chg [] wr W → W.cell? ⟨t, j, none⟩ = some (.int .i64 (if (j : Int) ∈ N9.toList ++ L9 then 1 else 0)) := fun W hW => (GoneK.quiet HE.out hW |> fun h9 => OnceB.cell h9 j (by omega)).1
                        have hcs : cnt (N9.toList ++ L9) (j + 1) = cnt (N9.toList ++ L9) j + (if (j : Int) ∈ N9.toList ++ L9 then 1 else 0) := rfl
                        have hcl9 := cnt_le (N9.toList ++ L9) j
                        simp only [hasQ_dec] at hcl
                        have HCS := Lib.hid hcs
                        obtain ⟨D, hD⟩ : ∃ D, D = cnt (N9.toList ++ L9) j := ⟨_, rfl⟩
                        rw [← hD] at HCS hcl9 ⊢
                        have j0 : (0 : Int) ≤ (j : Int) := by omega
                        have j1 : (j : Int) < 100 := by omega
                        have HJL := Lib.hid hjl
                        by_cases hjm : (j : Int) ∈ N9.toList ++ L9
                        · simp only [hjm, if_true, decide_true] at hjc hcl HCS HJL
                          have e1 := hjc.1
                          clear hcs hD hjm hjl hjc
                          go_wp2
                          go_region_held3 (fun w' => w'.cell? ⟨t, j, none⟩ = some (.int .i64 1))
                            (first | go_keep)
                            (first
                              | (go_at_call 19; refine (hcl _ (Chg.refl _ _).drew).mono ?_; rintro e w6 ⟨rfl, hc⟩; have k9 := HJL.out _ ((Chg.refl [] wr).drew.then hc); have HC6 := Lib.hid ((Chg.refl [] wr).drew.then hc); clear hc))
                          all_goals
                            go_wp2
                            go_roundg n3
                            case measure => omega
                            case rel => exact ⟨j + 1, by omega, by go_num, by rw [HCS.out]; simp, Lib.hid (GoneK.quiet HE.out HC6.out)⟩
                        · simp only [hjm, if_false, decide_false] at hjc hcl HCS HJL
                          have e1 := hjc.1
                          clear hcs hD hjm hjl hjc
                          go_wp2
                          go_region_held3 (fun w' => w'.cell? ⟨t, j, none⟩ = some (.int .i64 0))
                            (first | go_keep)
                            (first
                              | (go_at_call 19; refine (hcl _ (Chg.refl _ _).drew).mono ?_; rintro e w6 ⟨rfl, hc⟩; have k9 := HJL.out _ ((Chg.refl [] wr).drew.then hc); have HC6 := Lib.hid ((Chg.refl [] wr).drew.then hc); clear hc))
                          all_goals
                            go_wp2
                            go_roundg n3
                            case measure => omega
                            case rel => exact ⟨j + 1, by omega, by go_num, by rw [HCS.out]; simp, Lib.hid (GoneK.quiet HE.out HC6.out)⟩
                  | succ n2 =>
                    obtain ⟨y, hy⟩ : ∃ y, X[k]? = some y := ⟨_, List.getElem?_eq_getElem (by rw [← HX9.out]; omega)⟩
                    have hmem : y ∈ X.drop k ++ (N9.toList ++ L9) := by
                      refine List.mem_append_left _ (List.mem_of_getElem? (i := 0) ?_)
                      rw [List.getElem?_drop]; exact hy
                    have hy0 := HK.out.in0 y hmem
                    obtain ⟨Y, rfl⟩ := Int.eq_ofNat_of_zero_le hy0.1
                    have hY : Y < 100 := by omega
                    obtain ⟨y1, y2⟩ := HK.out.cell Y hY
                    rw [if_pos hmem] at y1
                    obtain ⟨b9, o9, hA9, _, hce⟩ : ∃ b o, A9 = some ⟨b, o, none⟩ ∧ b < wr.heap.size ∧ wr.cell? ⟨b, o + k, none⟩ = some (.int .i64 (Y : Int)) := by
                      obtain ⟨A', c', hv, _, _, _, ho⟩ := HK.out.rd.open_
                      simp only [Value.slice.injEq] at hv
                      obtain ⟨rfl, _, rfl⟩ := hv
                      exact ho k _ hy
                    subst hA9
                    have HS := Lib.hid (HK.out.step (by rw [← HX9.out]; omega) hy)
                    have k0 : (0 : Int) ≤ (k : Int) := by omega
                    have k1 : (k : Int) < (n9 : Int) := by omega
                    have k2 : (0 : Int) ≤ (Y : Int) := by omega
                    have k3 : (Y : Int) < 100 := by omega
                    have k4 : ¬ (Y : Int) < 0 := by omega
                    have k5 : ¬ (99 : Int) < (Y : Int) := by omega
                    clear hmem hy0 hy
                    go_wp2
                    go_roundg n2
                    case measure => omega
                    case rel => exact ⟨k + 1, by omega, by go_num, HS⟩
end Go.Proofs
