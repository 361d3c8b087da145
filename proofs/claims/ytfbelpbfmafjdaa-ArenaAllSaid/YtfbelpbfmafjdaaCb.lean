import Derived.Test.YtfbelpbfmafjdaaCd
namespace Go.Proofs
open Go.RowKit Go.Shelf
set_option linter.unusedVariables false
attribute [local go_sem] Oper.semAt_some
theorem run_eql_nilFunc5 (c : Array Value) (f : FuncId) (w : World) : (binOp BinOp.eql 50 (Value.func (Fn.func f) #[] c) Value.nilFunc).run Try.prog w = .ok (.bool false) w := by
  kernel_rfl
attribute [local go_sem] run_eql_nilFunc5

/-- A piece that comes to no other end than its own: what is asked at other ends does not matter. -/
theorem wpIn_calm {F : Fence} {rm : Nat} {P : Program} {c : Code} {Q : Exit → Act → World → Prop} {a : Act} {w : World} (h : c.wpIn F rm P (fun e a w => match e with | .normal => Q .normal a w | _ => False) a w) : c.wpIn F rm P Q a w :=
  wpIn_mono h (fun e a' w' hq => by cases e <;> first | exact hq | exact hq.elim)
/-- The two boxes that the law makes first. -/
theorem boxes (w : World) (lv : Int) : Blk ((w.alloc (.cells #[.int .i64 lv] 3)).alloc (.cells #[.bool false] 4)) w.heap.size 3 #[.int .i64 lv] ∧ Blk ((w.alloc (.cells #[.int .i64 lv] 3)).alloc (.cells #[.bool false] 4)) (w.heap.size + 1) 4 #[.bool false] ∧
    Below w.heap.size w ((w.alloc (.cells #[.int .i64 lv] 3)).alloc (.cells #[.bool false] 4)) :=
  ⟨(Blk.new w 3 _).alloc _, by have := Blk.new (w.alloc (.cells #[.int .i64 lv] 3)) 4 #[.bool false]; simpa using this, ((Below.refl _ w).alloc (Nat.le_refl _) _).alloc (by simp) _⟩
set_option maxRecDepth 100000 in
set_option maxHeartbeats 6400000 in
theorem all_plays (size lv : Int) (V : Value) (l : List ActV) (w : World) (l0 : -9223372036854775808 ≤ lv) (l1 : lv ≤ 9223372036854775807) (hV : Acts w w.heap.size V l) :
    CallsIn Fence.wide 12 Try.prog 5 #[.int .i64 size, V, .int .i64 lv] w fun e w' => e = .returned (.bool true) ∧ Below w.heap.size w w' := by
  obtain ⟨A, c, rfl, hcell⟩ := hV
  have HM := fun w' => much_any size 100 A l.length c w'
  have HCell := Lib.hid hcell
  have HBx := Lib.hid (boxes w lv)
  clear hcell
  refine callsIn_of_wp_marks Try.func5 rfl trivial ?_ rfl
  simp only [Try.ntmps5, List.size_toArray, List.length_cons, List.length_nil, Nat.reduceAdd, Nat.reduceSub, Array.replicate_succ, Array.replicate_zero, List.push_toArray, List.append_toArray, List.nil_append, List.cons_append]
  cases hm : muchB size l.length 100 with
  | true =>
    rw [hm] at HM
    clear hm
    gi_wp2_with (first
      | (refine ⟨trivial, ?_⟩; gi_at_call 9; refine (callsIn_wide.2 (HM _)).mono ?_; rintro e w' ⟨rfl, rfl⟩))
    refine ⟨trivial, ?_⟩
    gi_wp2_with (fail)
    refine ⟨trivial, (callsIn_wide.2 (known_any _)).mono ?_⟩
    rintro e w1 ⟨rfl, hb⟩
    have q6 := HBx.out.2.1.chg (Chg.of_below hb) (by simp)
    have q6c := q6.cell 0
    have q6f := q6.frozen 0
    gi_wp2_with (fail)
    have hq := (q6.set_ 0 (.bool true)).cell 0
    simp at hq
    refine ⟨.bool true, ?_, rfl, (HBx.out.2.2.trans (hb.mono (by simp; omega))).setCell (p := ⟨w.heap.size + 1, 0, none⟩) (by simp) _⟩
    simp [results, Try.f5, go_sem, hq, Result.andThen]
  | false =>
    have hm' := hm
    rw [hm] at HM
    have hlen : l.length ≤ 100 := by
      unfold muchB at hm
      rw [Bool.or_eq_false_iff] at hm
      have := of_decide_eq_false hm.2
      omega
    clear hm hm'
    cases hmay : mayT size 1 with
    | false =>
      have HY := fun w' => may_any size 1 (by omega) w'
      rw [hmay] at HY
      clear hmay
      gi_wp2_with (first
        | (refine ⟨trivial, ?_⟩; gi_at_call 9; refine (callsIn_wide.2 (HM _)).mono ?_; rintro e w' ⟨rfl, rfl⟩)
        | (refine ⟨trivial, ?_⟩; gi_at_call 12; refine (callsIn_wide.2 (HY _)).mono ?_; rintro e w' ⟨rfl, rfl⟩))
      refine ⟨trivial, (callsIn_wide.2 (known_any _)).mono ?_⟩
      rintro e w1 ⟨rfl, hb⟩
      have q6 := HBx.out.2.1.chg (Chg.of_below hb) (by simp)
      have q6c := q6.cell 0
      have q6f := q6.frozen 0
      gi_wp2_with (fail)
      have hq := (q6.set_ 0 (.bool true)).cell 0
      simp at hq
      refine ⟨.bool true, ?_, rfl, (HBx.out.2.2.trans (hb.mono (by simp; omega))).setCell (p := ⟨w.heap.size + 1, 0, none⟩) (by simp) _⟩
      simp [results, Try.f5, go_sem, hq, Result.andThen]
    | true =>
      obtain ⟨a, b, _, _⟩ := mayT_iff.1 hmay
      obtain ⟨N, rfl⟩ := Int.eq_ofNat_of_zero_le (by omega : 0 ≤ size)
      have HN := fun w' => new_ok_I (w := w') (N : Nat) 1 hmay
      have HY := fun w' => may_any (N : Nat) 1 (by omega) w'
      rw [hmay] at HY
      have HR := fun w' => rnew_any N (by omega) 1 w'
      have HB := Lib.hid (fun (w0 w1 w2 : World) => Between9.new (w0 := w0) (w1 := w1) (w2 := w2) hmay)
      obtain ⟨m, hmm⟩ : ∃ m, m = l.length := ⟨_, rfl⟩
      rw [← hmm] at HM hlen ⊢
      have HMM := Lib.hid hmm
      clear hmay hmm a b
      gi_wp2_with (first
        | (refine ⟨trivial, ?_⟩; gi_at_call 9; refine (callsIn_wide.2 (HM _)).mono ?_; rintro e w' ⟨rfl, rfl⟩)
        | (refine ⟨trivial, ?_⟩; gi_at_call 12; refine (callsIn_wide.2 (HY _)).mono ?_; rintro e w' ⟨rfl, rfl⟩)
        | (refine ⟨trivial, ?_⟩; gi_at_call 11; refine (callsIn_wide.2 (HN _)).mono ?_; rintro e w1 ⟨rfl, hT, hc1⟩; have HT := Lib.hid hT; have HC := Lib.hid hc1; clear hT hc1)
        | (refine ⟨trivial, ?_⟩; gi_at_call 13; refine (callsIn_wide.2 (HR _)).mono ?_; rintro e w2 ⟨rfl, hR⟩; have HB0 := Lib.hid (HB.out _ _ _ HT.out HC.out hR); clear hR))
      have HB0' := HB0
      gi_loopw [10] (fun i wr => ∃ k : Nat, k ≤ m ∧ i = .int .i64 k ∧ Hid (Between9 ((w.alloc (.cells #[.int .i64 lv] 3)).alloc (.cells #[.bool false] 4)) (w.heap.size + 1 + 1) w1.heap.size w2.heap.size k wr)) (fun i wr => m - (intOf i).toNat)
      case atStart => exact ⟨0, Nat.zero_le _, rfl, by simpa using HB0⟩
      case round =>
        obtain ⟨k, hk, rfl, hB⟩ := hrel
        by_cases hlt : k < m
        · obtain ⟨a, ha⟩ : ∃ a, l[k]? = some a := ⟨_, List.getElem?_eq_getElem (by rw [← HMM.out]; exact hlt)⟩
          obtain ⟨b, off, rfl, hb, hfit, c0, c1, c2, c3, c4⟩ := HCell.out k a ha
          obtain ⟨S, R, t, r, h1, h2, h3, h4, h5, h6, h7, h8⟩ := hB.out
          have hbel : Below w.heap.size w wr := HBx.out.2.2.trans (h7.mono (by simp; omega))
          have d0 := (hbel.cell (p := ⟨b, off + k * 5, none⟩) hb).trans c0
          have d1 := (hbel.cell (p := ⟨b, off + k * 5 + 1, none⟩) hb).trans c1
          have d2 := (hbel.cell (p := ⟨b, off + k * 5 + 2, none⟩) hb).trans c2
          have d3 := (hbel.cell (p := ⟨b, off + k * 5 + 3, none⟩) hb).trans c3
          have d4 := (hbel.cell (p := ⟨b, off + k * 5 + 4, none⟩) hb).trans c4
          have d9 := h8.cell 0
          have i0 : (0 : Int) ≤ (k : Int) := by omega
          have i1 : (k : Int) < (m : Int) := by omega
          have HD := Lib.hid (fun W (hc : Chg [] wr W) => (hB.out.quiet hc).does (by omega) a hfit)
          clear h1 h2 h3 h4 h5 h6 h7 h8 hbel c0 c1 c2 c3 c4 ha hB
          obtain ⟨a1, a2, a3, a4, a5⟩ := a
          simp only at d0 d1 d2 d3 d4 HD
          gi_wp2
          refine wpIn_calm ?_
          gi_region_with (refine ⟨trivial, ?_⟩; refine (callsIn_wide.2 (HD.out _ ((Chg.refl _ _).drew))).mono ?_; rintro e w4 ⟨rfl, hB2⟩; have HB2 := Lib.hid hB2; clear hB2)
          all_goals
            dsimp only
            gi_wp2
            go_roundw
            case rel => exact ⟨k + 1, by omega, by go_num, HB2⟩
            case measure => simp [intOf]; omega
        · obtain rfl : k = m := by omega
          obtain ⟨S, R, t, r, h1, h2, h3, h4, h5, h6, h7, h8⟩ := hB.out
          have hw' : (t.put' 99).WF := by have := h2.act ⟨1, 99, 0, 0, 0⟩; simpa [Tab.act] using this
          have ht1 := h1.tab
          have H1 := Lib.hid h1
          have HR := Lib.hid (fun (W2 W6 : World) (B : Nat) (Sx : List Nat) => Ready.after (w := w) (W2 := W2) (W6 := W6) (B := B) (Sx := Sx) h1 h2 h3 h5 h7 h8 HBx.out.1 HBx.out.2.1 (Nat.le_succ _) HBx.out.2.2 (by simp; omega))
          have hall := all_in 11 (by omega) (w.heap.size + 1 + 1) r.L.length S t h2 h3.len.symm wr h1.tab
          have hlen4 := h3.len4 h2
          have hlS := h1.tab.lt
          clear h1 h3 h4 h5 h6 h7 h8 hB HB0 HB0' HT HC HB HY HN HM
          gi_wp2_with (fail)
          refine ⟨trivial, hall.mono ?_⟩
          rintro e w3 ⟨⟨B, rfl, hH⟩, hb3⟩
          have ht3 := ht1.quiet (Chg.of_below hb3)
          gi_wp2_with (fail)
          refine ⟨trivial, (callsIn_wide.2 (put_any ht3 h2 99)).mono ?_⟩
          rintro e w4 ⟨rfl, S1, ht4, hs1, hc4⟩
          gi_wp2_with (fail)
          refine ⟨trivial, (callsIn_wide.2 (at_I ht4 hw' 0 (by omega) (by omega))).mono ?_⟩
          rintro e w5 ⟨rfl, hc5⟩
          obtain ⟨I, hI⟩ : ∃ I, I = (t.put' 99).atIdx 0 := ⟨_, rfl⟩
          obtain ⟨G, hG⟩ : ∃ G, G = (t.put' 99).atGen 0 := ⟨_, rfl⟩
          obtain ⟨ia0, ia1⟩ : -9223372036854775808 ≤ I ∧ I ≤ 9223372036854775807 := by
            rw [hI]; unfold Tab.atIdx; cases (t.put' 99).live 0 with
            | none => simp
            | some s => simp
          rw [← hI, ← hG]
          have hgap : Chg S w3 (w5.alloc (.cells #[.int .i64 I, .int .u64 G] 36)) := (hc4.then hc5).alloc _
          have ht5 := ht4.quiet (hc5.alloc (.cells #[.int .i64 I, .int .u64 G] 36))
          have k12 := (Blk.new w5 36 #[.int .i64 I, .int .u64 G])
          have k0 := k12.cell 0
          have k1 := k12.cell 1
          have H12 := Lib.hid k12
          have hlt3 : ∀ k ∈ S1, k ∈ S ∨ w3.heap.size ≤ k := hs1
          cases hat : (t.put' 99).atIs 0 with
          | true =>
            clear hat hI hG k12
            gi_wp2_with (fail)
            refine ⟨trivial, (callsIn_wide.2 (drop_any ht5 hw' I G ia0 ia1)).mono ?_⟩
            rintro e w6 ⟨rfl, S2, ht6, hs2, hc6⟩
            have HRd := Lib.hid (HR.out w3 w6 B (S ++ S1) hH hb3 ((hgap.mono (fun k hk => .inl (List.mem_append_left _ hk))).trans hc6 (fun k hk => .inl (List.mem_append_right _ hk))) (fun k hk => by
              rcases List.mem_append.1 hk with h9 | h9
              · exact .inl h9
              · exact hlt3 k h9))
            clear ht6 hs2 hc6
            gi_wp2_with (fail)
            have HT0 := Lib.hid (show Turn w6 0 w6.heap.size [] (w6.alloc (.cells #[.int .i64 0] 3)) from ⟨by omega, by omega, Nat.le_refl _, Blk.new w6 3 _, ⟨List.nodup_nil, fun D h => by cases h⟩, (Below.refl _ _).alloc (Nat.le_refl _) _⟩)
            generalize w6.heap.size = b14 at HT0 ⊢
            generalize w6.alloc (.cells #[.int .i64 0] 3) = Ws at HT0 ⊢
            generalize w6 = Wb at HRd HT0
            clear H12 k0 k1 ht5 hgap hc4 hc5 ht4 ht3 hlt3 hs1 hH hb3 H1 hall ht1 HR
            refine wpIn_loop_ghost_k (fun j a' W => ∃ (T : Int) (b14 : Nat) (Ds : List Nat) (u : Nat → Value), j = (2 - T).toNat ∧ a' = { tmps := #[.int .i64 ↑N, .slice A k c, .int .i64 lv, u 3, u 4, .pointer (some ⟨w.heap.size, 0, none⟩), .pointer (some ⟨w.heap.size + 1, 0, none⟩), .pointer (some ⟨w.heap.size + 1 + 1, 0, none⟩), u 8, .pointer (some ⟨w2.heap.size, 0, none⟩), u 10, .func (.func 41) #[] #[.pointer (some ⟨B, 0, none⟩)], u 12, u 13, .pointer (some ⟨b14, 0, none⟩), u 15, u 16, u 17, u 18, u 19, u 20, u 21, u 22, u 23, u 24, u 25, u 26, u 27, u 28, u 29, u 30, u 31, u 32, u 33, u 34, u 35, u 36, u 37, u 38, u 39, u 40, u 41, u 42, u 43, u 44, u 45, u 46, u 47, u 48, u 49, u 50, u 51, u 52, u 53, u 54, u 55, u 56, u 57, u 58, u 59, u 60, u 61, u 62, u 63, u 64, u 65, u 66, u 67, u 68, u 69, u 70, u 71, u 72, u 73, u 74, u 75, u 76, u 77, u 78, u 79, u 80, u 81, u 82, u 83, u 84, u 85, u 86, u 87, u 88, u 89, u 90, u 91, u 92, u 93, u 94, u 95, u 96, u 97, u 98, u 99, u 100, u 101, u 102, u 103, u 104, u 105, u 106, u 107, u 108, u 109, u 110, u 111, u 112, u 113, u 114, u 115, u 116, u 117, u 118, u 119, u 120, u 121, u 122, u 123, u 124, u 125, u 126, u 127, u 128, u 129, u 130, u 131, u 132, u 133, u 134, u 135, u 136, u 137, u 138, u 139, u 140, u 141, u 142, u 143, u 144, u 145, u 146, u 147, u 148, u 149, u 150, u 151, u 152, u 153, u 154, u 155, u 156, u 157, u 158, u 159, u 160, u 161, u 162, u 163, u 164, u 165, u 166, u 167, u 168, u 169, u 170, u 171, u 172, u 173, u 174, u 175, u 176, u 177, u 178, u 179], defers := marks Ds } ∧ Turn Wb T b14 Ds W) 2 ?_ ?_
            · exact ⟨0, b14, [], ex_frame1 rfl HT0.out⟩
            · rintro j a' W ⟨T, b14, Ds, u, rfl, rfl, T0, T2, hb14, h14, hM, hB⟩ J K hJ hK
              have zW := hB.size
              have a14 := h14.cell 0
              have f14 := h14.frozen 0
              have hDs := hM.lt
              have lt14 := h14.lt
              obtain ⟨AL, cl, hcells⟩ := HRd.out.cells
              have HCL := Lib.hid hcells
              clear hcells
              by_cases hT : T < 2
              · gi_wp2
                have c15 : Blk ((W.alloc (.cells #[.int .i64 0] 3)).alloc (.cells #[.int .i64 0] 3)) W.heap.size 3 #[.int .i64 0] := (Blk.new W 3 _).alloc _
                have c16 : Blk ((W.alloc (.cells #[.int .i64 0] 3)).alloc (.cells #[.int .i64 0] 3)) (W.heap.size + 1) 3 #[.int .i64 0] := by have := Blk.new (W.alloc (.cells #[.int .i64 0] 3)) 3 #[.int .i64 0]; simpa using this
                have hBn : Below Wb.heap.size Wb ((W.alloc (.cells #[.int .i64 0] 3)).alloc (.cells #[.int .i64 0] 3)) := (hB.alloc hB.size _).alloc (by simp; omega) _
                have zn : ((W.alloc (.cells #[.int .i64 0] 3)).alloc (.cells #[.int .i64 0] 3)).heap.size = W.heap.size + 2 := by simp
                have hG0 : Goes t r.L.length Wb T b14 W.heap.size (W.heap.size + 1) Ds [] ((W.alloc (.cells #[.int .i64 0] 3)).alloc (.cells #[.int .i64 0] 3)) := ⟨0, Nat.zero_le _, rfl, c15, c16, (h14.alloc _).alloc _, (hM.others (KeepsOthers.alloc _ _)).others (KeepsOthers.alloc _ _), hBn⟩
                refine wpIn_rangeFunc_ownH (α := Nam) rfl (by omega) (gf := 41) (lb := #[.pointer (some ⟨B, 0, none⟩)]) rfl trivial (enters_of Try.func41 (by kernel_rfl) rfl)
                  (over_stops (12 - 1) (by omega) (HRd.out.held.below hBn (Nat.le_refl _)) (D := Wb.heap.size) (Nat.le_refl _) (by omega) (by have := nowL_len t r.L.length; omega)) (fun h k => h.trans k) (belowK_b (by omega)) (Below.refl _ _) (fun _ => rfl)
                  (Goes t r.L.length Wb T b14 W.heap.size (W.heap.size + 1) Ds) (Left t r.L.length lv Wb T b14 W.heap.size (W.heap.size + 1) Ds)
                  (goes_own (by omega) (by omega) (by omega) (fun D hD => by have := hDs D hD; omega) (by omega)) (left_own (by omega) (by omega) (by omega) (fun D hD => by have := hDs D hD; omega) (by omega)) hG0
                  (fun x a' V => ∃ (Bx : Nat) (u : Nat → Value), True ∧ a' = { tmps := #[.int .i64 ↑N, .slice A k c, .int .i64 lv, u 3, u 4, .pointer (some ⟨w.heap.size, 0, none⟩), .pointer (some ⟨w.heap.size + 1, 0, none⟩), .pointer (some ⟨w.heap.size + 1 + 1, 0, none⟩), u 8, .pointer (some ⟨w2.heap.size, 0, none⟩), u 10, .func (.func 41) #[] #[.pointer (some ⟨B, 0, none⟩)], u 12, u 13, .pointer (some ⟨b14, 0, none⟩), .pointer (some ⟨W.heap.size, 0, none⟩), .pointer (some ⟨W.heap.size + 1, 0, none⟩), .pointer (some ⟨Bx, 0, none⟩), .int .i64 x.x, u 19, u 20, u 21, u 22, u 23, u 24, u 25, u 26, u 27, u 28, u 29, u 30, u 31, u 32, u 33, u 34, u 35, u 36, u 37, u 38, u 39, u 40, u 41, u 42, u 43, u 44, u 45, u 46, u 47, u 48, u 49, u 50, u 51, u 52, u 53, u 54, u 55, u 56, u 57, u 58, u 59, u 60, u 61, u 62, u 63, u 64, u 65, u 66, u 67, u 68, u 69, u 70, u 71, u 72, u 73, u 74, u 75, u 76, u 77, u 78, u 79, u 80, u 81, u 82, u 83, u 84, u 85, u 86, u 87, u 88, u 89, u 90, u 91, u 92, u 93, u 94, u 95, u 96, u 97, u 98, u 99, u 100, u 101, u 102, u 103, u 104, u 105, u 106, u 107, u 108, u 109, u 110, u 111, u 112, u 113, u 114, u 115, u 116, u 117, u 118, u 119, u 120, u 121, u 122, u 123, u 124, u 125, u 126, u 127, u 128, u 129, u 130, u 131, u 132, u 133, u 134, u 135, u 136, u 137, u 138, u 139, u 140, u 141, u 142, u 143, u 144, u 145, u 146, u 147, u 148, u 149, u 150, u 151, u 152, u 153, u 154, u 155, u 156, u 157, u 158, u 159, u 160, u 161, u 162, u 163, u 164, u 165, u 166, u 167, u 168, u 169, u 170, u 171, u 172, u 173, u 174, u 175, u 176, u 177, u 178, u 179], defers := [] } ∧ Blk V Bx 36 #[.int .i64 x.i, .int .u64 x.q])
                  (fun x a' _ X Y row hs hg hr => by
                    obtain ⟨Bx, u, h1, h2, h3⟩ := hs
                    exact ⟨Bx, u, h1, h2, h3.same (hg.block Bx h3.lt (fun e => by
                      obtain ⟨_, o, ho, hc⟩ := hr Bx e.symm
                      unfold Blk at h3
                      rw [h3] at ho; cases ho; cases hc))⟩) ?_ ?_ ?_ ?_
                · intro l pre x V K2 hI hK2
                  have hA := (goes_own (t := t) (N := r.L.length) (Wb := Wb) (T := T) (b14 := b14) (b15 := W.heap.size) (b16 := W.heap.size + 1) (C := W.heap.size + 2) (Ds := Ds) (by omega) (by omega) (by omega) (fun D hD => by have := hDs D hD; omega) (by omega)).alloc (.cells #[.int .i64 x.i, .int .u64 x.q] 36) hI
                  have hz : Wb.heap.size ≤ V.heap.size := by obtain ⟨_, _, q⟩ := hI; exact q.below.size
                  simp only [Nam.encs]
                  gi_wp2
                  exact hK2 _ _ ((KeepsOthers.alloc _ _).from _) ((Below.refl _ V).alloc hz _) hA ⟨V.heap.size, ex_frame3 trivial (Blk.new V 36 _)⟩
                · rintro l pre x a' V hl ⟨rr, hr⟩ ⟨a, ha, hG⟩ ⟨Bx, u, _, rfl, bX⟩ hlt
                  have hN4 : r.L.length ≤ 4096 := HRd.out.sim.len4 HRd.out.wf
                  obtain ⟨m, hm⟩ : ∃ m, m = r.L.length := ⟨_, rfl⟩
                  have HMm := Lib.hid hm
                  rw [← hm] at hN4 ha
                  clear hm hlt
                  have HG := Lib.hid hG
                  have HVB := Lib.hid hG.below
                  clear hG
                  gi_wp2
                  gi_loopg [] (m - a) (fun G V' => ∃ q : Nat, q + G = m ∧ Hid (GoesAt t Wb T b14 W.heap.size (W.heap.size + 1) Ds q pre V') ∧ Hid (Blk V' Bx 36 #[.int .i64 x.i, .int .u64 x.q]) ∧ Hid (KeepsOthers V V'))
                  case atStart => exact ⟨a, by omega, HG, Lib.hid bX, Lib.hid (KeepsOthers.refl V)⟩
                  case round =>
                    clear HG bX
                    obtain ⟨q, hq, HG, HX, HK⟩ := hrel
                    obtain ⟨e9, eh, e5, e6, f6, hrow⟩ := HCL.out _ HG.out.below
                    have g15 := HG.out.at_.cell 0
                    have fg15 := HG.out.at_.frozen 0
                    rw [← HMm.out] at eh
                    cases gk with
                    | zero =>
                      obtain rfl : q = m := by omega
                      have dlt : decide ((q : Int) < (q : Int)) = false := by simp
                      have deq : ((q : Int) == (q : Int)) = true := by simp
                      gi_wp2
                      refine wpIn_region_quiet_round (F := Fence.wide) l rfl (by rfl) (by kernel_rfl) (by kernel_rfl) ?_
                      repeat (gi_big_quiet_step (fail))
                      refine wpQuietIn_nil ?_
                      intro _ hw'
                      obtain ⟨nq, hw''⟩ := hw'
                      subst hw''
                      gi_wp2
                      refine wpIn_region_quiet_round (F := Fence.wide) l rfl (by rfl) (by kernel_rfl) (by kernel_rfl) ?_
                      repeat (gi_big_quiet_step (fail))
                      refine wpQuietIn_nil ?_
                      intro _ hw'
                      obtain ⟨nr, hw''⟩ := hw'
                      subst hw''
                      gi_wp2
                      exact ⟨(((HK.out.trans (KeepsOthers.drewN _ _)).trans (KeepsOthers.setCell _ _ _))).from _, .inr ⟨rfl, by rw [HG.out.pre_, HMm.out]; exact now_end x⟩⟩
                    | succ G =>
                      obtain ⟨p, hp⟩ : ∃ p, r.L[q]? = some p := ⟨_, List.getElem?_eq_getElem (by rw [← HMm.out]; omega)⟩
                      obtain ⟨gl, rfl, rg, rt, rx⟩ := hrow q p hp
                      have HP := Lib.hid hp
                      have dlt : decide ((q : Int) < (m : Int)) = true := by simp; omega
                      have deq : ((q : Int) == (m : Int)) = false := by simp; omega
                      have i0 : (0 : Int) ≤ (q : Int) := by omega
                      have i1 : (q : Int) < (m : Int) := by omega
                      clear hrow hp
                      cases hth : p.there with
                      | false =>
                        rw [hth] at rt
                        have HTH := Lib.hid hth
                        clear hth
                        gi_wp2
                        refine wpIn_region_quiet_round (F := Fence.wide) l rfl (by rfl) (by kernel_rfl) (by kernel_rfl) ?_
                        repeat (gi_big_quiet_step (fail))
                        refine wpQuietIn_nil ?_
                        intro _ hw'
                        obtain ⟨nq, hw''⟩ := hw'
                        subst hw''
                        gi_wp2
                        gi_roundg G
                        case measure => omega
                        case rel => exact ⟨q + 1, by omega, Lib.hid ((HG.out.skip (HRd.out.sim.now_no HP.out HTH.out) (by omega) (by omega) zW).drewN _), Lib.hid ((HX.out.far (p := ⟨W.heap.size, 0, none⟩) (fun e => (HX.out.ty HG.out.at_ (by decide)) e) _).drewN _), Lib.hid ((HK.out.trans (KeepsOthers.setCell _ _ _)).trans (KeepsOthers.drewN _ _))⟩
                      | true =>
                        rw [hth] at rt
                        have HTH := Lib.hid hth
                        have rb := HX.out.cell 0
                        have rc := HX.out.cell 1
                        clear hth
                        obtain ⟨PG, hPG⟩ : ∃ PG, PG = p.gen := ⟨_, rfl⟩
                        obtain ⟨PX, hPX⟩ : ∃ PX, PX = p.x := ⟨_, rfl⟩
                        rw [← hPG] at rg
                        rw [← hPX] at rx
                        have HPG := Lib.hid hPG
                        have HPX := Lib.hid hPX
                        clear hPG hPX
                        have HYes := Lib.hid (HRd.out.sim.now_yes HRd.out.wf HP.out HTH.out)
                        obtain ⟨xi, xq, xx⟩ := x
                        simp only at rb rc
                        by_cases href : xi = (q : Int) ∧ xq = PG
                        · have hrun := ref_yes href
                          by_cases hxx : xx = PX
                          · have hbx : (xx != PX) = false := by simp [hxx]
                            have HE := Lib.hid (show (⟨xi, xq, xx⟩ : Nam) = ⟨(q : Nat), p.gen, p.x⟩ by rw [href.1, href.2, hxx, HPG.out, HPX.out])
                            clear href hxx
                            gi_wp2
                            refine wpIn_region_quiet_round (F := Fence.wide) l rfl (by rfl) (by kernel_rfl) (by kernel_rfl) ?_
                            repeat (gi_big_quiet_step (fail))
                            refine wpQuietIn_nil ?_
                            intro _ hw'
                            obtain ⟨nq, hw''⟩ := hw'
                            subst hw''
                            gi_wp2
                            refine wpIn_region_quiet_round (F := Fence.wide) l rfl (by rfl) (by kernel_rfl) (by kernel_rfl) ?_
                            repeat (gi_big_quiet_step (fail))
                            refine wpQuietIn_nil ?_
                            intro _ hw'
                            obtain ⟨nr, hw''⟩ := hw'
                            subst hw''
                            have lt5 := HRd.out.e5.lt
                            have ne5a : w.heap.size ≠ W.heap.size := by omega
                            have ne5b : w.heap.size ≠ W.heap.size + 1 := by omega
                            have ne5c : W.heap.size ≠ w.heap.size := by omega
                            have ne5d : W.heap.size + 1 ≠ w.heap.size := by omega
                            have g16 := HG.out.n.cell 0
                            have fg16 := HG.out.n.frozen 0
                            have g14 := HG.out.turn.cell 0
                            have HC := Lib.hid (HG.out.come (x := ⟨xi, xq, xx⟩) (by rw [HE.out]; exact HYes.out) (by omega) (by omega) (by omega) zW (by omega))
                            have hq1 : q + 1 ≤ r.L.length := by rw [← HMm.out]; omega
                            have HQ1 := Lib.hid hq1
                            have ltn : pre.length ≤ 4096 := by rw [HG.out.pre_]; have := nowL_len t q; omega
                            clear hq1
                            rcases (by omega : T = 0 ∨ T = 1) with rfl | rfl
                            · by_cases hlv : (pre.length : Int) + 1 = lv
                              · have hlb : ((pre.length : Int) + 1 == lv) = true := by simpa using hlv
                                have HL := Lib.hid hlv
                                clear hlv
                                gi_wp2
                                exact ⟨((((HK.out.trans (KeepsOthers.setCell _ _ _)).trans (KeepsOthers.setCell _ _ _)).trans (KeepsOthers.drewN _ _))).from _, .inl ⟨rfl, rfl, by simpa using HL.out, q + 1, HQ1.out, HC.out.drewN _⟩⟩
                              · have hlb : ((pre.length : Int) + 1 == lv) = false := by simpa using hlv
                                clear hlv
                                gi_wp2
                                exact ⟨((((HK.out.trans (KeepsOthers.setCell _ _ _)).trans (KeepsOthers.setCell _ _ _)).trans (KeepsOthers.drewN _ _))).from _, below_between HVB.out (HC.out.drewN _).below (((HK.out.trans (KeepsOthers.setCell _ _ _)).trans (KeepsOthers.setCell _ _ _)).trans (KeepsOthers.drewN _ _)).size, q + 1, HQ1.out, HC.out.drewN _⟩
                            · gi_wp2
                              exact ⟨((((HK.out.trans (KeepsOthers.setCell _ _ _)).trans (KeepsOthers.setCell _ _ _)).trans (KeepsOthers.drewN _ _))).from _, below_between HVB.out (HC.out.drewN _).below (((HK.out.trans (KeepsOthers.setCell _ _ _)).trans (KeepsOthers.setCell _ _ _)).trans (KeepsOthers.drewN _ _)).size, q + 1, HQ1.out, HC.out.drewN _⟩
                          · have hbx : (xx != PX) = true := by simpa using hxx
                            have HNO := Lib.hid (show ¬ (pre ++ [⟨xi, xq, xx⟩] <+: nowL t r.L.length) by
                              rw [HG.out.pre_]
                              exact now_other (by rw [← HMm.out]; omega) HYes.out (fun e => hxx (by injection e with _ _ e; rw [HPX.out, ← e])))
                            clear href hxx
                            gi_wp2
                            refine wpIn_region_quiet_round (F := Fence.wide) l rfl (by rfl) (by kernel_rfl) (by kernel_rfl) ?_
                            repeat (gi_big_quiet_step (fail))
                            refine wpQuietIn_nil ?_
                            intro _ hw'
                            obtain ⟨nq, hw''⟩ := hw'
                            subst hw''
                            gi_wp2
                            refine wpIn_region_quiet_round (F := Fence.wide) l rfl (by rfl) (by kernel_rfl) (by kernel_rfl) ?_
                            repeat (gi_big_quiet_step (fail))
                            refine wpQuietIn_nil ?_
                            intro _ hw'
                            obtain ⟨nr, hw''⟩ := hw'
                            subst hw''
                            gi_wp2
                            exact ⟨(((HK.out.trans (KeepsOthers.drewN _ _)).trans (KeepsOthers.setCell _ _ _))).from _, .inr ⟨rfl, HNO.out⟩⟩
                        · have hrun := ref_no href
                          have HNO := Lib.hid (show ¬ (pre ++ [⟨xi, xq, xx⟩] <+: nowL t r.L.length) by
                            rw [HG.out.pre_]
                            exact now_other (by rw [← HMm.out]; omega) HYes.out (fun e => href (by injection e with e1 e2 _; exact ⟨e1.symm, by rw [HPG.out, ← e2]⟩)))
                          clear href
                          gi_wp2
                          refine wpIn_region_quiet_round (F := Fence.wide) l rfl (by rfl) (by kernel_rfl) (by kernel_rfl) ?_
                          repeat (gi_big_quiet_step (fail))
                          refine wpQuietIn_nil ?_
                          intro _ hw'
                          obtain ⟨nq, hw''⟩ := hw'
                          subst hw''
                          gi_wp2
                          refine wpIn_region_quiet_round (F := Fence.wide) l rfl (by rfl) (by kernel_rfl) (by kernel_rfl) ?_
                          repeat (gi_big_quiet_step (fail))
                          refine wpQuietIn_nil ?_
                          intro _ hw'
                          obtain ⟨nr, hw''⟩ := hw'
                          subst hw''
                          gi_wp2
                          exact ⟨(((HK.out.trans (KeepsOthers.drewN _ _)).trans (KeepsOthers.setCell _ _ _))).from _, .inr ⟨rfl, HNO.out⟩⟩
                · rintro D ys V hD rfl ⟨a, ha, hG⟩ hKD
                  have hpre : True := trivial
                  have hN4 : r.L.length ≤ 4096 := HRd.out.sim.len4 HRd.out.wf
                  obtain ⟨m, hm⟩ : ∃ m, m = r.L.length := ⟨_, rfl⟩
                  have HMm := Lib.hid hm
                  rw [← hm] at hN4 ha
                  clear hm
                  have HG := Lib.hid hG
                  have HKD := Lib.hid hKD
                  clear hG hKD hpre
                  gi_wp2
                  gi_loopg [] (m - a) (fun G V' => ∃ q : Nat, q + G = m ∧ Hid (GoesAt t Wb T b14 W.heap.size (W.heap.size + 1) Ds q (nowL t r.L.length) V') ∧ Hid (KeepsOthers V V'))
                  case atStart => exact ⟨a, by omega, HG, Lib.hid (KeepsOthers.refl V)⟩
                  case round =>
                    clear HG
                    obtain ⟨q, hq, HG, HK⟩ := hrel
                    obtain ⟨e9, eh, e5, e6, f6, hrow⟩ := HCL.out _ HG.out.below
                    have g15 := HG.out.at_.cell 0
                    have fg15 := HG.out.at_.frozen 0
                    have g14 := HG.out.turn.cell 0
                    have g16 := HG.out.n.cell 0
                    rw [← HMm.out] at eh
                    have HTN : ∀ n, Hid (Turn Wb (T + 1) wr.heap.size (D :: Ds) ((wr.drewN n).alloc (.cells #[.int .i64 (T + 1)] 3))) := fun n => Lib.hid (Turn.next (T := T) (C := W.heap.size + 2) (D := D) (by omega) (by omega) (HG.out.drewN n) (fun D hD => by have := hDs D hD; omega) (by omega) (by omega) (HK.out.same D _ HKD.out rfl))
                    have dc : ∀ n v t, ((wr.drewN n).alloc (.cells #[v] t)).cell? { block := wr.heap.size, off := 0 } = some v := fun n v t => drew_cell n v t
                    have df : ∀ n v t, ((wr.drewN n).alloc (.cells #[v] t)).frozen? { block := wr.heap.size, off := 0 } = false := fun n v t => drew_frozen n v t
                    have dm : ∀ n v x t, ((wr.drewN n).alloc (.cells #[v] t)).setCell { block := wr.heap.size, off := 0 } x = (wr.drewN n).alloc (.cells #[x] t) := fun n v x t => drew_set n v x t
                    cases gk with
                    | zero =>
                      obtain rfl : q = m := by omega
                      have dlt : decide ((q : Int) < (q : Int)) = false := by simp
                      gi_wp2
                      gi_quiet (fail)
                      gi_wp2
                      gi_quiet (fail)
                      gi_wp2
                      exact Handed.intro (2 - (T + 1)).toNat (by omega) (hJ _ _ _ ⟨T + 1, wr.heap.size, D :: Ds, ex_frame1 rfl (HTN _).out⟩)
                    | succ G =>
                      obtain ⟨p, hp⟩ : ∃ p, r.L[q]? = some p := ⟨_, List.getElem?_eq_getElem (by rw [← HMm.out]; omega)⟩
                      obtain ⟨gl, rfl, rg, rt, rx⟩ := hrow q p hp
                      have HP := Lib.hid hp
                      have dlt : decide ((q : Int) < (m : Int)) = true := by simp; omega
                      have i0 : (0 : Int) ≤ (q : Int) := by omega
                      have i1 : (q : Int) < (m : Int) := by omega
                      clear hrow hp
                      cases hth : p.there with
                      | false =>
                        rw [hth] at rt
                        have HTH := Lib.hid hth
                        clear hth
                        gi_wp2
                        gi_quiet (fail)
                        gi_wp2
                        gi_roundg G
                        case measure => omega
                        case rel => exact ⟨q + 1, by omega, Lib.hid ((HG.out.skip (HRd.out.sim.now_no HP.out HTH.out) (by omega) (by omega) zW).drewN _), Lib.hid ((HK.out.trans (KeepsOthers.setCell _ _ _)).trans (KeepsOthers.drewN _ _))⟩
                      | true =>
                        exact (now_all (N := r.L.length) (by rw [← HMm.out]; omega) (HRd.out.sim.now_yes HRd.out.wf HP.out hth) (by have := HG.out.pre_; exact this)).elim
                · rintro D c' pre V hD hpre (⟨rfl, rfl, hlv, a, ha, hG⟩ | ⟨rfl, hno⟩) hKD
                  · have HLV := Lib.hid hlv
                    clear hlv
                    have hN4 : r.L.length ≤ 4096 := HRd.out.sim.len4 HRd.out.wf
                    obtain ⟨m, hm⟩ : ∃ m, m = r.L.length := ⟨_, rfl⟩
                    have HMm := Lib.hid hm
                    rw [← hm] at hN4 ha
                    clear hm
                    have HG := Lib.hid hG
                    have HKD := Lib.hid hKD
                    clear hG hKD hpre
                    gi_wp2
                    gi_loopg [] (m - a) (fun G V' => ∃ q : Nat, q + G = m ∧ Hid (GoesAt t Wb 0 b14 W.heap.size (W.heap.size + 1) Ds q pre V') ∧ Hid (KeepsOthers V V'))
                    case atStart => exact ⟨a, by omega, HG, Lib.hid (KeepsOthers.refl V)⟩
                    case round =>
                      clear HG
                      obtain ⟨q, hq, HG, HK⟩ := hrel
                      obtain ⟨e9, eh, e5, e6, f6, hrow⟩ := HCL.out _ HG.out.below
                      have g15 := HG.out.at_.cell 0
                      have fg15 := HG.out.at_.frozen 0
                      have g14 := HG.out.turn.cell 0
                      have g16 := HG.out.n.cell 0
                      rw [← HMm.out] at eh
                      have HTN : ∀ n, Hid (Turn Wb 1 wr.heap.size (D :: Ds) ((wr.drewN n).alloc (.cells #[.int .i64 1] 3))) := fun n => Lib.hid (Turn.next (T := 0) (C := W.heap.size + 2) (D := D) (by omega) (by omega) (HG.out.drewN n) (fun D hD => by have := hDs D hD; omega) (by omega) (by omega) (HK.out.same D _ HKD.out rfl))
                      have dc : ∀ n v t, ((wr.drewN n).alloc (.cells #[v] t)).cell? { block := wr.heap.size, off := 0 } = some v := fun n v t => drew_cell n v t
                      have df : ∀ n v t, ((wr.drewN n).alloc (.cells #[v] t)).frozen? { block := wr.heap.size, off := 0 } = false := fun n v t => drew_frozen n v t
                      have dm : ∀ n v x t, ((wr.drewN n).alloc (.cells #[v] t)).setCell { block := wr.heap.size, off := 0 } x = (wr.drewN n).alloc (.cells #[x] t) := fun n v x t => drew_set n v x t
                      cases gk with
                      | zero =>
                        obtain rfl : q = m := by omega
                        have dlt : decide ((q : Int) < (q : Int)) = false := by simp
                        gi_wp2
                        gi_quiet (fail)
                        gi_wp2
                        gi_quiet (fail)
                        gi_wp2
                        exact Handed.intro 1 (by decide) (hJ _ _ _ ⟨1, wr.heap.size, D :: Ds, ex_frame1 (by decide) (HTN _).out⟩)
                      | succ G =>
                        obtain ⟨p, hp⟩ : ∃ p, r.L[q]? = some p := ⟨_, List.getElem?_eq_getElem (by rw [← HMm.out]; omega)⟩
                        obtain ⟨gl, rfl, rg, rt, rx⟩ := hrow q p hp
                        have HP := Lib.hid hp
                        have dlt : decide ((q : Int) < (m : Int)) = true := by simp; omega
                        have i0 : (0 : Int) ≤ (q : Int) := by omega
                        have i1 : (q : Int) < (m : Int) := by omega
                        clear hrow hp
                        cases hth : p.there with
                        | false =>
                          rw [hth] at rt
                          have HTH := Lib.hid hth
                          clear hth
                          gi_wp2
                          gi_quiet (fail)
                          gi_wp2
                          gi_roundg G
                          case measure => omega
                          case rel => exact ⟨q + 1, by omega, Lib.hid ((HG.out.skip (HRd.out.sim.now_no HP.out HTH.out) (by omega) (by omega) zW).drewN _), Lib.hid ((HK.out.trans (KeepsOthers.setCell _ _ _)).trans (KeepsOthers.drewN _ _))⟩
                        | true =>
                          rw [hth] at rt
                          have hlb : ((pre.length : Int) == lv) = true := by simpa using HLV.out
                          have d14 : ((0 : Int) == 0) = true := rfl
                          gi_wp2
                          gi_quiet (fail)
                          gi_wp2
                          gi_quiet (fail)
                          gi_wp2
                          exact Handed.intro 1 (by decide) (hJ _ _ _ ⟨1, wr.heap.size, D :: Ds, ex_frame1 (by decide) (HTN _).out⟩)
                  · exact absurd hpre hno
              · obtain rfl : T = 2 := by omega
                have k6 : Blk W (w.heap.size + 1) 4 #[.bool false] := HRd.out.e6.same (hB.block _ HRd.out.e6.lt)
                have K6 := Lib.hid k6
                clear k6
                gi_wp2_with (fail)
                refine ⟨trivial, (callsIn_wide.2 (known_any _)).mono ?_⟩
                rintro e w9 ⟨rfl, hb9⟩
                have q6 := K6.out.chg (Chg.of_below hb9) (by simp)
                have q6c := q6.cell 0
                have q6f := q6.frozen 0
                have Q6 := Lib.hid q6
                clear q6
                gi_wp2_with (fail)
                have zb := HRd.out.below.size
                have z9 := hb9.size
                have hM5 : Marks Wb.heap.size (w9.setCell ⟨w.heap.size + 1, 0, none⟩ (.bool true)) Ds := Marks.others ⟨hM.1, fun D hD => ⟨(hM.2 D hD).1, (hb9.block D (hDs D hD)).trans (hM.2 D hD).2⟩⟩ (KeepsOthers.setCell _ _ _)
                have hB5 : Below w.heap.size w (w9.setCell ⟨w.heap.size + 1, 0, none⟩ (.bool true)) := ((HRd.out.below.trans (hB.mono (by omega))).trans (hb9.mono (by omega))).setCell (p := ⟨w.heap.size + 1, 0, none⟩) (by simp) _
                refine leaves_marks (B := Wb.heap.size) (b := w.heap.size + 1) (ty := 4) (cs := #[.bool true]) (w0 := w9.setCell ⟨w.heap.size + 1, 0, none⟩ (.bool true)) (by simp [World.setCell]; omega) ?_ Ds _ hM5 (Below.refl _ _) (by have := Q6.out.set_ 0 (.bool true); simpa using this)
                intro W' hB' hH'
                have hc' := hH'.cell 0
                simp at hc'
                refine ⟨.bool true, ?_, rfl, hB5.trans (hB'.mono (by omega))⟩
                simp [results, Try.f5, go_sem, hc', Result.andThen]
          | false =>
            clear hat hI hG k12
            have HRd := Lib.hid (HR.out w3 (w5.alloc (.cells #[.int .i64 I, .int .u64 G] 36)) B S hH hb3 hgap (fun k hk => .inl hk))
            gi_wp2_with (fail)
            have HT0 := Lib.hid (show Turn (w5.alloc (.cells #[.int .i64 I, .int .u64 G] 36)) 0 (w5.heap.size + 1) [] ((w5.alloc (.cells #[.int .i64 I, .int .u64 G] 36)).alloc (.cells #[.int .i64 0] 3)) from ⟨by omega, by omega, by simp, by have := Blk.new (w5.alloc (.cells #[.int .i64 I, .int .u64 G] 36)) 3 #[.int .i64 0]; simpa using this, ⟨List.nodup_nil, fun D h => by cases h⟩, (Below.refl _ _).alloc (Nat.le_refl _) _⟩)
            generalize w5.heap.size + 1 = b14 at HT0 ⊢
            generalize (w5.alloc (.cells #[.int .i64 I, .int .u64 G] 36)).alloc (.cells #[.int .i64 0] 3) = Ws at HT0 ⊢
            generalize w5.alloc (.cells #[.int .i64 I, .int .u64 G] 36) = Wb at HRd HT0
            clear H12 k0 k1 ht5 hgap hc4 hc5 ht4 ht3 hlt3 hs1 hH hb3 H1 hall ht1 HR
            refine wpIn_loop_ghost_k (fun j a' W => ∃ (T : Int) (b14 : Nat) (Ds : List Nat) (u : Nat → Value), j = (2 - T).toNat ∧ a' = { tmps := #[.int .i64 ↑N, .slice A k c, .int .i64 lv, u 3, u 4, .pointer (some ⟨w.heap.size, 0, none⟩), .pointer (some ⟨w.heap.size + 1, 0, none⟩), .pointer (some ⟨w.heap.size + 1 + 1, 0, none⟩), u 8, .pointer (some ⟨w2.heap.size, 0, none⟩), u 10, .func (.func 41) #[] #[.pointer (some ⟨B, 0, none⟩)], u 12, u 13, .pointer (some ⟨b14, 0, none⟩), u 15, u 16, u 17, u 18, u 19, u 20, u 21, u 22, u 23, u 24, u 25, u 26, u 27, u 28, u 29, u 30, u 31, u 32, u 33, u 34, u 35, u 36, u 37, u 38, u 39, u 40, u 41, u 42, u 43, u 44, u 45, u 46, u 47, u 48, u 49, u 50, u 51, u 52, u 53, u 54, u 55, u 56, u 57, u 58, u 59, u 60, u 61, u 62, u 63, u 64, u 65, u 66, u 67, u 68, u 69, u 70, u 71, u 72, u 73, u 74, u 75, u 76, u 77, u 78, u 79, u 80, u 81, u 82, u 83, u 84, u 85, u 86, u 87, u 88, u 89, u 90, u 91, u 92, u 93, u 94, u 95, u 96, u 97, u 98, u 99, u 100, u 101, u 102, u 103, u 104, u 105, u 106, u 107, u 108, u 109, u 110, u 111, u 112, u 113, u 114, u 115, u 116, u 117, u 118, u 119, u 120, u 121, u 122, u 123, u 124, u 125, u 126, u 127, u 128, u 129, u 130, u 131, u 132, u 133, u 134, u 135, u 136, u 137, u 138, u 139, u 140, u 141, u 142, u 143, u 144, u 145, u 146, u 147, u 148, u 149, u 150, u 151, u 152, u 153, u 154, u 155, u 156, u 157, u 158, u 159, u 160, u 161, u 162, u 163, u 164, u 165, u 166, u 167, u 168, u 169, u 170, u 171, u 172, u 173, u 174, u 175, u 176, u 177, u 178, u 179], defers := marks Ds } ∧ Turn Wb T b14 Ds W) 2 ?_ ?_
            · exact ⟨0, b14, [], ex_frame1 rfl HT0.out⟩
            · rintro j a' W ⟨T, b14, Ds, u, rfl, rfl, T0, T2, hb14, h14, hM, hB⟩ J K hJ hK
              have zW := hB.size
              have a14 := h14.cell 0
              have f14 := h14.frozen 0
              have hDs := hM.lt
              have lt14 := h14.lt
              obtain ⟨AL, cl, hcells⟩ := HRd.out.cells
              have HCL := Lib.hid hcells
              clear hcells
              by_cases hT : T < 2
              · gi_wp2
                have c15 : Blk ((W.alloc (.cells #[.int .i64 0] 3)).alloc (.cells #[.int .i64 0] 3)) W.heap.size 3 #[.int .i64 0] := (Blk.new W 3 _).alloc _
                have c16 : Blk ((W.alloc (.cells #[.int .i64 0] 3)).alloc (.cells #[.int .i64 0] 3)) (W.heap.size + 1) 3 #[.int .i64 0] := by have := Blk.new (W.alloc (.cells #[.int .i64 0] 3)) 3 #[.int .i64 0]; simpa using this
                have hBn : Below Wb.heap.size Wb ((W.alloc (.cells #[.int .i64 0] 3)).alloc (.cells #[.int .i64 0] 3)) := (hB.alloc hB.size _).alloc (by simp; omega) _
                have zn : ((W.alloc (.cells #[.int .i64 0] 3)).alloc (.cells #[.int .i64 0] 3)).heap.size = W.heap.size + 2 := by simp
                have hG0 : Goes t r.L.length Wb T b14 W.heap.size (W.heap.size + 1) Ds [] ((W.alloc (.cells #[.int .i64 0] 3)).alloc (.cells #[.int .i64 0] 3)) := ⟨0, Nat.zero_le _, rfl, c15, c16, (h14.alloc _).alloc _, (hM.others (KeepsOthers.alloc _ _)).others (KeepsOthers.alloc _ _), hBn⟩
                refine wpIn_rangeFunc_ownH (α := Nam) rfl (by omega) (gf := 41) (lb := #[.pointer (some ⟨B, 0, none⟩)]) rfl trivial (enters_of Try.func41 (by kernel_rfl) rfl)
                  (over_stops (12 - 1) (by omega) (HRd.out.held.below hBn (Nat.le_refl _)) (D := Wb.heap.size) (Nat.le_refl _) (by omega) (by have := nowL_len t r.L.length; omega)) (fun h k => h.trans k) (belowK_b (by omega)) (Below.refl _ _) (fun _ => rfl)
                  (Goes t r.L.length Wb T b14 W.heap.size (W.heap.size + 1) Ds) (Left t r.L.length lv Wb T b14 W.heap.size (W.heap.size + 1) Ds)
                  (goes_own (by omega) (by omega) (by omega) (fun D hD => by have := hDs D hD; omega) (by omega)) (left_own (by omega) (by omega) (by omega) (fun D hD => by have := hDs D hD; omega) (by omega)) hG0
                  (fun x a' V => ∃ (Bx : Nat) (u : Nat → Value), True ∧ a' = { tmps := #[.int .i64 ↑N, .slice A k c, .int .i64 lv, u 3, u 4, .pointer (some ⟨w.heap.size, 0, none⟩), .pointer (some ⟨w.heap.size + 1, 0, none⟩), .pointer (some ⟨w.heap.size + 1 + 1, 0, none⟩), u 8, .pointer (some ⟨w2.heap.size, 0, none⟩), u 10, .func (.func 41) #[] #[.pointer (some ⟨B, 0, none⟩)], u 12, u 13, .pointer (some ⟨b14, 0, none⟩), .pointer (some ⟨W.heap.size, 0, none⟩), .pointer (some ⟨W.heap.size + 1, 0, none⟩), .pointer (some ⟨Bx, 0, none⟩), .int .i64 x.x, u 19, u 20, u 21, u 22, u 23, u 24, u 25, u 26, u 27, u 28, u 29, u 30, u 31, u 32, u 33, u 34, u 35, u 36, u 37, u 38, u 39, u 40, u 41, u 42, u 43, u 44, u 45, u 46, u 47, u 48, u 49, u 50, u 51, u 52, u 53, u 54, u 55, u 56, u 57, u 58, u 59, u 60, u 61, u 62, u 63, u 64, u 65, u 66, u 67, u 68, u 69, u 70, u 71, u 72, u 73, u 74, u 75, u 76, u 77, u 78, u 79, u 80, u 81, u 82, u 83, u 84, u 85, u 86, u 87, u 88, u 89, u 90, u 91, u 92, u 93, u 94, u 95, u 96, u 97, u 98, u 99, u 100, u 101, u 102, u 103, u 104, u 105, u 106, u 107, u 108, u 109, u 110, u 111, u 112, u 113, u 114, u 115, u 116, u 117, u 118, u 119, u 120, u 121, u 122, u 123, u 124, u 125, u 126, u 127, u 128, u 129, u 130, u 131, u 132, u 133, u 134, u 135, u 136, u 137, u 138, u 139, u 140, u 141, u 142, u 143, u 144, u 145, u 146, u 147, u 148, u 149, u 150, u 151, u 152, u 153, u 154, u 155, u 156, u 157, u 158, u 159, u 160, u 161, u 162, u 163, u 164, u 165, u 166, u 167, u 168, u 169, u 170, u 171, u 172, u 173, u 174, u 175, u 176, u 177, u 178, u 179], defers := [] } ∧ Blk V Bx 36 #[.int .i64 x.i, .int .u64 x.q])
                  (fun x a' _ X Y row hs hg hr => by
                    obtain ⟨Bx, u, h1, h2, h3⟩ := hs
                    exact ⟨Bx, u, h1, h2, h3.same (hg.block Bx h3.lt (fun e => by
                      obtain ⟨_, o, ho, hc⟩ := hr Bx e.symm
                      unfold Blk at h3
                      rw [h3] at ho; cases ho; cases hc))⟩) ?_ ?_ ?_ ?_
                · intro l pre x V K2 hI hK2
                  have hA := (goes_own (t := t) (N := r.L.length) (Wb := Wb) (T := T) (b14 := b14) (b15 := W.heap.size) (b16 := W.heap.size + 1) (C := W.heap.size + 2) (Ds := Ds) (by omega) (by omega) (by omega) (fun D hD => by have := hDs D hD; omega) (by omega)).alloc (.cells #[.int .i64 x.i, .int .u64 x.q] 36) hI
                  have hz : Wb.heap.size ≤ V.heap.size := by obtain ⟨_, _, q⟩ := hI; exact q.below.size
                  simp only [Nam.encs]
                  gi_wp2
                  exact hK2 _ _ ((KeepsOthers.alloc _ _).from _) ((Below.refl _ V).alloc hz _) hA ⟨V.heap.size, ex_frame3 trivial (Blk.new V 36 _)⟩
                · rintro l pre x a' V hl ⟨rr, hr⟩ ⟨a, ha, hG⟩ ⟨Bx, u, _, rfl, bX⟩ hlt
                  have hN4 : r.L.length ≤ 4096 := HRd.out.sim.len4 HRd.out.wf
                  obtain ⟨m, hm⟩ : ∃ m, m = r.L.length := ⟨_, rfl⟩
                  have HMm := Lib.hid hm
                  rw [← hm] at hN4 ha
                  clear hm hlt
                  have HG := Lib.hid hG
                  have HVB := Lib.hid hG.below
                  clear hG
                  gi_wp2
                  gi_loopg [] (m - a) (fun G V' => ∃ q : Nat, q + G = m ∧ Hid (GoesAt t Wb T b14 W.heap.size (W.heap.size + 1) Ds q pre V') ∧ Hid (Blk V' Bx 36 #[.int .i64 x.i, .int .u64 x.q]) ∧ Hid (KeepsOthers V V'))
                  case atStart => exact ⟨a, by omega, HG, Lib.hid bX, Lib.hid (KeepsOthers.refl V)⟩
                  case round =>
                    clear HG bX
                    obtain ⟨q, hq, HG, HX, HK⟩ := hrel
                    obtain ⟨e9, eh, e5, e6, f6, hrow⟩ := HCL.out _ HG.out.below
                    have g15 := HG.out.at_.cell 0
                    have fg15 := HG.out.at_.frozen 0
                    rw [← HMm.out] at eh
                    cases gk with
                    | zero =>
                      obtain rfl : q = m := by omega
                      have dlt : decide ((q : Int) < (q : Int)) = false := by simp
                      have deq : ((q : Int) == (q : Int)) = true := by simp
                      gi_wp2
                      refine wpIn_region_quiet_round (F := Fence.wide) l rfl (by rfl) (by kernel_rfl) (by kernel_rfl) ?_
                      repeat (gi_big_quiet_step (fail))
                      refine wpQuietIn_nil ?_
                      intro _ hw'
                      obtain ⟨nq, hw''⟩ := hw'
                      subst hw''
                      gi_wp2
                      refine wpIn_region_quiet_round (F := Fence.wide) l rfl (by rfl) (by kernel_rfl) (by kernel_rfl) ?_
                      repeat (gi_big_quiet_step (fail))
                      refine wpQuietIn_nil ?_
                      intro _ hw'
                      obtain ⟨nr, hw''⟩ := hw'
                      subst hw''
                      gi_wp2
                      exact ⟨(((HK.out.trans (KeepsOthers.drewN _ _)).trans (KeepsOthers.setCell _ _ _))).from _, .inr ⟨rfl, by rw [HG.out.pre_, HMm.out]; exact now_end x⟩⟩
                    | succ G =>
                      obtain ⟨p, hp⟩ : ∃ p, r.L[q]? = some p := ⟨_, List.getElem?_eq_getElem (by rw [← HMm.out]; omega)⟩
                      obtain ⟨gl, rfl, rg, rt, rx⟩ := hrow q p hp
                      have HP := Lib.hid hp
                      have dlt : decide ((q : Int) < (m : Int)) = true := by simp; omega
                      have deq : ((q : Int) == (m : Int)) = false := by simp; omega
                      have i0 : (0 : Int) ≤ (q : Int) := by omega
                      have i1 : (q : Int) < (m : Int) := by omega
                      clear hrow hp
                      cases hth : p.there with
                      | false =>
                        rw [hth] at rt
                        have HTH := Lib.hid hth
                        clear hth
                        gi_wp2
                        refine wpIn_region_quiet_round (F := Fence.wide) l rfl (by rfl) (by kernel_rfl) (by kernel_rfl) ?_
                        repeat (gi_big_quiet_step (fail))
                        refine wpQuietIn_nil ?_
                        intro _ hw'
                        obtain ⟨nq, hw''⟩ := hw'
                        subst hw''
                        gi_wp2
                        gi_roundg G
                        case measure => omega
                        case rel => exact ⟨q + 1, by omega, Lib.hid ((HG.out.skip (HRd.out.sim.now_no HP.out HTH.out) (by omega) (by omega) zW).drewN _), Lib.hid ((HX.out.far (p := ⟨W.heap.size, 0, none⟩) (fun e => (HX.out.ty HG.out.at_ (by decide)) e) _).drewN _), Lib.hid ((HK.out.trans (KeepsOthers.setCell _ _ _)).trans (KeepsOthers.drewN _ _))⟩
                      | true =>
                        rw [hth] at rt
                        have HTH := Lib.hid hth
                        have rb := HX.out.cell 0
                        have rc := HX.out.cell 1
                        clear hth
                        obtain ⟨PG, hPG⟩ : ∃ PG, PG = p.gen := ⟨_, rfl⟩
                        obtain ⟨PX, hPX⟩ : ∃ PX, PX = p.x := ⟨_, rfl⟩
                        rw [← hPG] at rg
                        rw [← hPX] at rx
                        have HPG := Lib.hid hPG
                        have HPX := Lib.hid hPX
                        clear hPG hPX
                        have HYes := Lib.hid (HRd.out.sim.now_yes HRd.out.wf HP.out HTH.out)
                        obtain ⟨xi, xq, xx⟩ := x
                        simp only at rb rc
                        by_cases href : xi = (q : Int) ∧ xq = PG
                        · have hrun := ref_yes href
                          by_cases hxx : xx = PX
                          · have hbx : (xx != PX) = false := by simp [hxx]
                            have HE := Lib.hid (show (⟨xi, xq, xx⟩ : Nam) = ⟨(q : Nat), p.gen, p.x⟩ by rw [href.1, href.2, hxx, HPG.out, HPX.out])
                            clear href hxx
                            gi_wp2
                            refine wpIn_region_quiet_round (F := Fence.wide) l rfl (by rfl) (by kernel_rfl) (by kernel_rfl) ?_
                            repeat (gi_big_quiet_step (fail))
                            refine wpQuietIn_nil ?_
                            intro _ hw'
                            obtain ⟨nq, hw''⟩ := hw'
                            subst hw''
                            gi_wp2
                            refine wpIn_region_quiet_round (F := Fence.wide) l rfl (by rfl) (by kernel_rfl) (by kernel_rfl) ?_
                            repeat (gi_big_quiet_step (fail))
                            refine wpQuietIn_nil ?_
                            intro _ hw'
                            obtain ⟨nr, hw''⟩ := hw'
                            subst hw''
                            have lt5 := HRd.out.e5.lt
                            have ne5a : w.heap.size ≠ W.heap.size := by omega
                            have ne5b : w.heap.size ≠ W.heap.size + 1 := by omega
                            have ne5c : W.heap.size ≠ w.heap.size := by omega
                            have ne5d : W.heap.size + 1 ≠ w.heap.size := by omega
                            have g16 := HG.out.n.cell 0
                            have fg16 := HG.out.n.frozen 0
                            have g14 := HG.out.turn.cell 0
                            have HC := Lib.hid (HG.out.come (x := ⟨xi, xq, xx⟩) (by rw [HE.out]; exact HYes.out) (by omega) (by omega) (by omega) zW (by omega))
                            have hq1 : q + 1 ≤ r.L.length := by rw [← HMm.out]; omega
                            have HQ1 := Lib.hid hq1
                            have ltn : pre.length ≤ 4096 := by rw [HG.out.pre_]; have := nowL_len t q; omega
                            clear hq1
                            rcases (by omega : T = 0 ∨ T = 1) with rfl | rfl
                            · by_cases hlv : (pre.length : Int) + 1 = lv
                              · have hlb : ((pre.length : Int) + 1 == lv) = true := by simpa using hlv
                                have HL := Lib.hid hlv
                                clear hlv
                                gi_wp2
                                exact ⟨((((HK.out.trans (KeepsOthers.setCell _ _ _)).trans (KeepsOthers.setCell _ _ _)).trans (KeepsOthers.drewN _ _))).from _, .inl ⟨rfl, rfl, by simpa using HL.out, q + 1, HQ1.out, HC.out.drewN _⟩⟩
                              · have hlb : ((pre.length : Int) + 1 == lv) = false := by simpa using hlv
                                clear hlv
                                gi_wp2
                                exact ⟨((((HK.out.trans (KeepsOthers.setCell _ _ _)).trans (KeepsOthers.setCell _ _ _)).trans (KeepsOthers.drewN _ _))).from _, below_between HVB.out (HC.out.drewN _).below (((HK.out.trans (KeepsOthers.setCell _ _ _)).trans (KeepsOthers.setCell _ _ _)).trans (KeepsOthers.drewN _ _)).size, q + 1, HQ1.out, HC.out.drewN _⟩
                            · gi_wp2
                              exact ⟨((((HK.out.trans (KeepsOthers.setCell _ _ _)).trans (KeepsOthers.setCell _ _ _)).trans (KeepsOthers.drewN _ _))).from _, below_between HVB.out (HC.out.drewN _).below (((HK.out.trans (KeepsOthers.setCell _ _ _)).trans (KeepsOthers.setCell _ _ _)).trans (KeepsOthers.drewN _ _)).size, q + 1, HQ1.out, HC.out.drewN _⟩
                          · have hbx : (xx != PX) = true := by simpa using hxx
                            have HNO := Lib.hid (show ¬ (pre ++ [⟨xi, xq, xx⟩] <+: nowL t r.L.length) by
                              rw [HG.out.pre_]
                              exact now_other (by rw [← HMm.out]; omega) HYes.out (fun e => hxx (by injection e with _ _ e; rw [HPX.out, ← e])))
                            clear href hxx
                            gi_wp2
                            refine wpIn_region_quiet_round (F := Fence.wide) l rfl (by rfl) (by kernel_rfl) (by kernel_rfl) ?_
                            repeat (gi_big_quiet_step (fail))
                            refine wpQuietIn_nil ?_
                            intro _ hw'
                            obtain ⟨nq, hw''⟩ := hw'
                            subst hw''
                            gi_wp2
                            refine wpIn_region_quiet_round (F := Fence.wide) l rfl (by rfl) (by kernel_rfl) (by kernel_rfl) ?_
                            repeat (gi_big_quiet_step (fail))
                            refine wpQuietIn_nil ?_
                            intro _ hw'
                            obtain ⟨nr, hw''⟩ := hw'
                            subst hw''
                            gi_wp2
                            exact ⟨(((HK.out.trans (KeepsOthers.drewN _ _)).trans (KeepsOthers.setCell _ _ _))).from _, .inr ⟨rfl, HNO.out⟩⟩
                        · have hrun := ref_no href
                          have HNO := Lib.hid (show ¬ (pre ++ [⟨xi, xq, xx⟩] <+: nowL t r.L.length) by
                            rw [HG.out.pre_]
                            exact now_other (by rw [← HMm.out]; omega) HYes.out (fun e => href (by injection e with e1 e2 _; exact ⟨e1.symm, by rw [HPG.out, ← e2]⟩)))
                          clear href
                          gi_wp2
                          refine wpIn_region_quiet_round (F := Fence.wide) l rfl (by rfl) (by kernel_rfl) (by kernel_rfl) ?_
                          repeat (gi_big_quiet_step (fail))
                          refine wpQuietIn_nil ?_
                          intro _ hw'
                          obtain ⟨nq, hw''⟩ := hw'
                          subst hw''
                          gi_wp2
                          refine wpIn_region_quiet_round (F := Fence.wide) l rfl (by rfl) (by kernel_rfl) (by kernel_rfl) ?_
                          repeat (gi_big_quiet_step (fail))
                          refine wpQuietIn_nil ?_
                          intro _ hw'
                          obtain ⟨nr, hw''⟩ := hw'
                          subst hw''
                          gi_wp2
                          exact ⟨(((HK.out.trans (KeepsOthers.drewN _ _)).trans (KeepsOthers.setCell _ _ _))).from _, .inr ⟨rfl, HNO.out⟩⟩
                · rintro D ys V hD rfl ⟨a, ha, hG⟩ hKD
                  have hpre : True := trivial
                  have hN4 : r.L.length ≤ 4096 := HRd.out.sim.len4 HRd.out.wf
                  obtain ⟨m, hm⟩ : ∃ m, m = r.L.length := ⟨_, rfl⟩
                  have HMm := Lib.hid hm
                  rw [← hm] at hN4 ha
                  clear hm
                  have HG := Lib.hid hG
                  have HKD := Lib.hid hKD
                  clear hG hKD hpre
                  gi_wp2
                  gi_loopg [] (m - a) (fun G V' => ∃ q : Nat, q + G = m ∧ Hid (GoesAt t Wb T b14 W.heap.size (W.heap.size + 1) Ds q (nowL t r.L.length) V') ∧ Hid (KeepsOthers V V'))
                  case atStart => exact ⟨a, by omega, HG, Lib.hid (KeepsOthers.refl V)⟩
                  case round =>
                    clear HG
                    obtain ⟨q, hq, HG, HK⟩ := hrel
                    obtain ⟨e9, eh, e5, e6, f6, hrow⟩ := HCL.out _ HG.out.below
                    have g15 := HG.out.at_.cell 0
                    have fg15 := HG.out.at_.frozen 0
                    have g14 := HG.out.turn.cell 0
                    have g16 := HG.out.n.cell 0
                    rw [← HMm.out] at eh
                    have HTN : ∀ n, Hid (Turn Wb (T + 1) wr.heap.size (D :: Ds) ((wr.drewN n).alloc (.cells #[.int .i64 (T + 1)] 3))) := fun n => Lib.hid (Turn.next (T := T) (C := W.heap.size + 2) (D := D) (by omega) (by omega) (HG.out.drewN n) (fun D hD => by have := hDs D hD; omega) (by omega) (by omega) (HK.out.same D _ HKD.out rfl))
                    have dc : ∀ n v t, ((wr.drewN n).alloc (.cells #[v] t)).cell? { block := wr.heap.size, off := 0 } = some v := fun n v t => drew_cell n v t
                    have df : ∀ n v t, ((wr.drewN n).alloc (.cells #[v] t)).frozen? { block := wr.heap.size, off := 0 } = false := fun n v t => drew_frozen n v t
                    have dm : ∀ n v x t, ((wr.drewN n).alloc (.cells #[v] t)).setCell { block := wr.heap.size, off := 0 } x = (wr.drewN n).alloc (.cells #[x] t) := fun n v x t => drew_set n v x t
                    cases gk with
                    | zero =>
                      obtain rfl : q = m := by omega
                      have dlt : decide ((q : Int) < (q : Int)) = false := by simp
                      gi_wp2
                      gi_quiet (fail)
                      gi_wp2
                      gi_quiet (fail)
                      gi_wp2
                      exact Handed.intro (2 - (T + 1)).toNat (by omega) (hJ _ _ _ ⟨T + 1, wr.heap.size, D :: Ds, ex_frame1 rfl (HTN _).out⟩)
                    | succ G =>
                      obtain ⟨p, hp⟩ : ∃ p, r.L[q]? = some p := ⟨_, List.getElem?_eq_getElem (by rw [← HMm.out]; omega)⟩
                      obtain ⟨gl, rfl, rg, rt, rx⟩ := hrow q p hp
                      have HP := Lib.hid hp
                      have dlt : decide ((q : Int) < (m : Int)) = true := by simp; omega
                      have i0 : (0 : Int) ≤ (q : Int) := by omega
                      have i1 : (q : Int) < (m : Int) := by omega
                      clear hrow hp
                      cases hth : p.there with
                      | false =>
                        rw [hth] at rt
                        have HTH := Lib.hid hth
                        clear hth
                        gi_wp2
                        gi_quiet (fail)
                        gi_wp2
                        gi_roundg G
                        case measure => omega
                        case rel => exact ⟨q + 1, by omega, Lib.hid ((HG.out.skip (HRd.out.sim.now_no HP.out HTH.out) (by omega) (by omega) zW).drewN _), Lib.hid ((HK.out.trans (KeepsOthers.setCell _ _ _)).trans (KeepsOthers.drewN _ _))⟩
                      | true =>
                        exact (now_all (N := r.L.length) (by rw [← HMm.out]; omega) (HRd.out.sim.now_yes HRd.out.wf HP.out hth) (by have := HG.out.pre_; exact this)).elim
                · rintro D c' pre V hD hpre (⟨rfl, rfl, hlv, a, ha, hG⟩ | ⟨rfl, hno⟩) hKD
                  · have HLV := Lib.hid hlv
                    clear hlv
                    have hN4 : r.L.length ≤ 4096 := HRd.out.sim.len4 HRd.out.wf
                    obtain ⟨m, hm⟩ : ∃ m, m = r.L.length := ⟨_, rfl⟩
                    have HMm := Lib.hid hm
                    rw [← hm] at hN4 ha
                    clear hm
                    have HG := Lib.hid hG
                    have HKD := Lib.hid hKD
                    clear hG hKD hpre
                    gi_wp2
                    gi_loopg [] (m - a) (fun G V' => ∃ q : Nat, q + G = m ∧ Hid (GoesAt t Wb 0 b14 W.heap.size (W.heap.size + 1) Ds q pre V') ∧ Hid (KeepsOthers V V'))
                    case atStart => exact ⟨a, by omega, HG, Lib.hid (KeepsOthers.refl V)⟩
                    case round =>
                      clear HG
                      obtain ⟨q, hq, HG, HK⟩ := hrel
                      obtain ⟨e9, eh, e5, e6, f6, hrow⟩ := HCL.out _ HG.out.below
                      have g15 := HG.out.at_.cell 0
                      have fg15 := HG.out.at_.frozen 0
                      have g14 := HG.out.turn.cell 0
                      have g16 := HG.out.n.cell 0
                      rw [← HMm.out] at eh
                      have HTN : ∀ n, Hid (Turn Wb 1 wr.heap.size (D :: Ds) ((wr.drewN n).alloc (.cells #[.int .i64 1] 3))) := fun n => Lib.hid (Turn.next (T := 0) (C := W.heap.size + 2) (D := D) (by omega) (by omega) (HG.out.drewN n) (fun D hD => by have := hDs D hD; omega) (by omega) (by omega) (HK.out.same D _ HKD.out rfl))
                      have dc : ∀ n v t, ((wr.drewN n).alloc (.cells #[v] t)).cell? { block := wr.heap.size, off := 0 } = some v := fun n v t => drew_cell n v t
                      have df : ∀ n v t, ((wr.drewN n).alloc (.cells #[v] t)).frozen? { block := wr.heap.size, off := 0 } = false := fun n v t => drew_frozen n v t
                      have dm : ∀ n v x t, ((wr.drewN n).alloc (.cells #[v] t)).setCell { block := wr.heap.size, off := 0 } x = (wr.drewN n).alloc (.cells #[x] t) := fun n v x t => drew_set n v x t
                      cases gk with
                      | zero =>
                        obtain rfl : q = m := by omega
                        have dlt : decide ((q : Int) < (q : Int)) = false := by simp
                        gi_wp2
                        gi_quiet (fail)
                        gi_wp2
                        gi_quiet (fail)
                        gi_wp2
                        exact Handed.intro 1 (by decide) (hJ _ _ _ ⟨1, wr.heap.size, D :: Ds, ex_frame1 (by decide) (HTN _).out⟩)
                      | succ G =>
                        obtain ⟨p, hp⟩ : ∃ p, r.L[q]? = some p := ⟨_, List.getElem?_eq_getElem (by rw [← HMm.out]; omega)⟩
                        obtain ⟨gl, rfl, rg, rt, rx⟩ := hrow q p hp
                        have HP := Lib.hid hp
                        have dlt : decide ((q : Int) < (m : Int)) = true := by simp; omega
                        have i0 : (0 : Int) ≤ (q : Int) := by omega
                        have i1 : (q : Int) < (m : Int) := by omega
                        clear hrow hp
                        cases hth : p.there with
                        | false =>
                          rw [hth] at rt
                          have HTH := Lib.hid hth
                          clear hth
                          gi_wp2
                          gi_quiet (fail)
                          gi_wp2
                          gi_roundg G
                          case measure => omega
                          case rel => exact ⟨q + 1, by omega, Lib.hid ((HG.out.skip (HRd.out.sim.now_no HP.out HTH.out) (by omega) (by omega) zW).drewN _), Lib.hid ((HK.out.trans (KeepsOthers.setCell _ _ _)).trans (KeepsOthers.drewN _ _))⟩
                        | true =>
                          rw [hth] at rt
                          have hlb : ((pre.length : Int) == lv) = true := by simpa using HLV.out
                          have d14 : ((0 : Int) == 0) = true := rfl
                          gi_wp2
                          gi_quiet (fail)
                          gi_wp2
                          gi_quiet (fail)
                          gi_wp2
                          exact Handed.intro 1 (by decide) (hJ _ _ _ ⟨1, wr.heap.size, D :: Ds, ex_frame1 (by decide) (HTN _).out⟩)
                  · exact absurd hpre hno
              · obtain rfl : T = 2 := by omega
                have k6 : Blk W (w.heap.size + 1) 4 #[.bool false] := HRd.out.e6.same (hB.block _ HRd.out.e6.lt)
                have K6 := Lib.hid k6
                clear k6
                gi_wp2_with (fail)
                refine ⟨trivial, (callsIn_wide.2 (known_any _)).mono ?_⟩
                rintro e w9 ⟨rfl, hb9⟩
                have q6 := K6.out.chg (Chg.of_below hb9) (by simp)
                have q6c := q6.cell 0
                have q6f := q6.frozen 0
                have Q6 := Lib.hid q6
                clear q6
                gi_wp2_with (fail)
                have zb := HRd.out.below.size
                have z9 := hb9.size
                have hM5 : Marks Wb.heap.size (w9.setCell ⟨w.heap.size + 1, 0, none⟩ (.bool true)) Ds := Marks.others ⟨hM.1, fun D hD => ⟨(hM.2 D hD).1, (hb9.block D (hDs D hD)).trans (hM.2 D hD).2⟩⟩ (KeepsOthers.setCell _ _ _)
                have hB5 : Below w.heap.size w (w9.setCell ⟨w.heap.size + 1, 0, none⟩ (.bool true)) := ((HRd.out.below.trans (hB.mono (by omega))).trans (hb9.mono (by omega))).setCell (p := ⟨w.heap.size + 1, 0, none⟩) (by simp) _
                refine leaves_marks (B := Wb.heap.size) (b := w.heap.size + 1) (ty := 4) (cs := #[.bool true]) (w0 := w9.setCell ⟨w.heap.size + 1, 0, none⟩ (.bool true)) (by simp [World.setCell]; omega) ?_ Ds _ hM5 (Below.refl _ _) (by have := Q6.out.set_ 0 (.bool true); simpa using this)
                intro W' hB' hH'
                have hc' := hH'.cell 0
                simp at hc'
                refine ⟨.bool true, ?_, rfl, hB5.trans (hB'.mono (by omega))⟩
                simp [results, Try.f5, go_sem, hc', Result.andThen]
open Go.RowKit in
theorem all_calls (size lv : Int) (V : Value) (l : List ActV) (w : World) (l0 : -9223372036854775808 ≤ lv) (l1 : lv ≤ 9223372036854775807) (hV : Acts w w.heap.size V l) :
    Calls Try.prog 5 #[.int .i64 size, V, .int .i64 lv] w fun e w' => e = .returned (.bool true) ∧ Below w.heap.size w w' :=
  (callsIn_wide (n := 12)).1 (all_plays size lv V l w l0 l1 hV)
end Go.Proofs
