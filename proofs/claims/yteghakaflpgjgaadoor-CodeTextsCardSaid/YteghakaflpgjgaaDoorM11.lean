import Derived.Test.YteghakaflpgjgaaDoorM10
import Derived.WalkMore
section
namespace Go.Proofs
open Go.RowKit
set_option linter.unusedVariables false
set_option linter.unusedSimpArgs false

theorem below_behind {w w' : World} {q : Nat} (h : Below (w.drewN q).heap.size (w.drewN q) w') : Below w.heap.size w w' := ⟨h.os, h.tape, h.output, h.size, h.block⟩
theorem okP_true {t c : List UInt8} (h : okP t c = true) : c ≠ [] ∧ lineP c = t := of_decide_eq_true h
theorem okP_false {t c : List UInt8} (h : okP t c = false) : c = [] ∨ lineP c ≠ t := by
  have := of_decide_eq_false h
  by_cases hc : c = []
  · exact .inl hc
  · exact .inr (fun e => this ⟨hc, e⟩)
theorem FormsAt.apart {w : World} {m : Nat} (h : FormsAt w m) {e : TypeId} {size n : Nat} {v : Value} {xs : List Value} (hr : Row w e size v n xs) : some m ≠ v.ownBlock := by
  intro he
  obtain ⟨es, c, hb, _⟩ := h
  rcases hr.2 with ⟨rfl, _⟩ | ⟨g, cap, cur, rfl, hg, _⟩
  · cases he
  · simp [Value.ownBlock] at he
    subst he
    unfold Blk at hg
    rw [hb] at hg
    cases hg
set_option maxHeartbeats 4000000 in
set_option maxRecDepth 100000 in
theorem of_any (s0 : List UInt8) (hs : s0.length ≤ 1000000) (w : World) (hL : Ld w) :
    Calls Tryd.prog 19 #[.string ⟨s0.toArray⟩] w fun e w' => ∃ R b n, e = .returned (.tuple #[R, .int .i64 n]) ∧ Read s0 b n ∧ By w' R b ∧ Below w.heap.size w w' := by
  have hFo := forms_any w
  obtain ⟨m, hm⟩ : ∃ m, m = w.heap.size := ⟨_, rfl⟩
  rw [← hm] at hFo
  have hmH := Lib.hid hm
  clear hm
  have hLH := Lib.hid hL
  clear hL
  go_enter Tryd.func19, Tryd.ntmps19
  go_wp2
  refine wp_scope_straight ?_
  go_wp2_with (go_at_call 24; refine hFo.mono ?_; rintro e w1 ⟨rfl, hF1, hb1⟩)
  rw [hmH.out] at hb1
  have hK0 := Lib.hid (⟨hF1, hb1⟩ : _ ∧ _)
  clear hF1 hb1 hFo
  refine wp_label ?_
  go_wp2
  go_loopw [0, 5, 6] (fun sv pv ev wr => ∃ (s p : List UInt8) (n : Int) (pre : List UInt8) (A : Option Addr) (c : Nat), sv = .string ⟨s.toArray⟩ ∧ pv = .slice A p.length c ∧ ev = .int .i64 n ∧ 0 ≤ n ∧ n < 100 ∧ p.length ≤ 1024 ∧ s.length ≤ 1000000 ∧ Hid (OfMid s0 p n s pre ∧ Row wr 5 1 (.slice A p.length c) p.length (bys p) ∧ (∀ k ∈ foot (.slice A p.length c), w.heap.size ≤ k) ∧ FormsAt wr m ∧ Below w.heap.size w wr)) (fun sv _ _ _ => match sv with | .string b => b.size | _ => 0)
  case atStart => exact ⟨s0, [], 0, [], none, 0, rfl, rfl, rfl, by omega, by omega, by simp, hs, Lib.hid ⟨OfMid.start s0, Row.nil _ _ _, (fun k hk => by cases hk), hK0.out.1, hK0.out.2⟩⟩
  case round =>
    obtain ⟨s, p, n, pre, A, c, rfl, rfl, rfl, n0, n1, hp, hsl, hI⟩ := hrel
    by_cases hse : s = []
    · subst hse
      have hlast := hI.out.1.last
      by_cases hn : n = 0
      · subst hn
        rw [if_pos rfl] at hlast
        have hRd := Lib.hid hlast
        clear hlast
        go_wp2
        rw [Exit.noGoto_ret]
        go_ret2
        exact ⟨_, p, 0, rfl, hRd.out, By.of_row hI.out.2.1, hI.out.2.2.2.2⟩
      · rw [if_neg hn] at hlast
        have hRd := Lib.hid hlast
        have hq : (n != 0) = true := by simpa using hn
        clear hlast
        go_wp2
        rw [Exit.noGoto_ret]
        go_ret2
        exact ⟨_, [], n, rfl, hRd.out, By.nil _, hI.out.2.2.2.2⟩
    · have hcut := cut_any s 10 hsl wr (hLH.out.below hI.out.2.2.2.2)
      rcases split_at 10 s with hno | ⟨t, r, hst, hno⟩
      · rw [cut_no hno] at hcut
        simp only at hcut
        have hbad := hI.out.1.open_ hse hno
        have hRd := Lib.hid (show Read s0 [] 16 from .inr ⟨hbad, rfl, rfl⟩)
        have hrd := fun q => read_any s hsl m (wr.drewN q) (hI.out.2.2.2.1.drewN q) ((hLH.out.below hI.out.2.2.2.2).drewN q)
        obtain ⟨ok, hok⟩ : ∃ ok, ok = okP s (readP s) := ⟨_, rfl⟩
        rw [← hok] at hrd
        obtain ⟨cl, hcl⟩ : ∃ cl, cl = readP s := ⟨_, rfl⟩
        rw [← hcl] at hrd
        have hsn : s.isEmpty = false := by cases s <;> simp_all
        clear hbad hok hcl hno hse
        have hbw := hI.out.2.2.2.2
        go_wp2_with (first
          | (go_at_call 30; with_reducible refine hcut.mono ?_; rintro e w2 ⟨rfl, nq, rfl⟩; have hrd2 := hrd nq)
          | (go_at_call 31; with_reducible refine hrd2.mono ?_; rintro e w3 ⟨R, rfl, hrow, hft, hb3⟩; obtain ⟨A2, c2, hRv, _⟩ := hrow.val; subst hRv; have hbE := hbw.trans ((below_behind hb3).mono hbw.size); clear hrow hft hb3))
        rw [Exit.noGoto_ret]
        go_ret2
        exact ⟨_, [], 16, rfl, hRd.out, By.nil _, hbE⟩
      · subst hst
        rw [cut_at hno] at hcut
        simp only at hcut
        have hbw := hI.out.2.2.2.2
        have htl : t.length ≤ 1000000 := by rw [List.length_append, List.length_cons] at hsl; omega
        have hrl : r.length ≤ 1000000 := by rw [List.length_append, List.length_cons] at hsl; omega
        have hrd := fun q => read_any t htl m (wr.drewN q) (hI.out.2.2.2.1.drewN q) ((hLH.out.below hbw).drewN q)
        have hcl4 := readP_len t
        obtain ⟨ok, hok⟩ : ∃ ok, ok = okP t (readP t) := ⟨_, rfl⟩
        obtain ⟨cl, hcl⟩ : ∃ cl, cl = readP t := ⟨_, rfl⟩
        rw [← hok, ← hcl] at hrd
        rw [← hcl] at hok hcl4
        obtain ⟨k, hk⟩ : ∃ k, k = cl.length := ⟨_, rfl⟩
        rw [← hk] at hrd hcl4
        obtain ⟨np, hnp⟩ : ∃ np, np = p.length := ⟨_, rfl⟩
        rw [← hnp] at hp ⊢
        obtain ⟨rB, hrB⟩ : ∃ rB : ByteArray, rB = ⟨r.toArray⟩ := ⟨_, rfl⟩
        have hre : rB.toList.isEmpty = r.isEmpty := by rw [hrB]; exact empty_iff r
        obtain ⟨tB, htB⟩ : ∃ tB : ByteArray, tB = ⟨t.toArray⟩ := ⟨_, rfl⟩
        obtain ⟨sB, hsB⟩ : ∃ sB : ByteArray, sB = ⟨(t ++ 10 :: r).toArray⟩ := ⟨_, rfl⟩
        have hse2 : sB.toList.isEmpty = false := by rw [hsB]; rw [empty_iff]; cases t <;> rfl
        have hsz0 : sB.size ≤ 1000000 := by rw [hsB, str_size]; exact hsl
        have hsz : rB.size < sB.size := by rw [hrB, hsB, str_size, str_size, List.length_append, List.length_cons]; omega
        rw [← hrB, ← htB, ← hsB] at hcut
        rw [← htB] at hrd
        rw [← hsB]
        have hK := Lib.hid (⟨hno, hok, hcl, hk, hnp, hrB, hbw⟩ : _ ∧ _ ∧ _ ∧ _ ∧ _ ∧ _ ∧ _)
        clear hno hok hcl hk hnp hrB htB hsB hse hsl htl hrl
        cases ok
        · have hbad : Hid (Read s0 [] 16) := by
            obtain ⟨hno, hok, hcl, _⟩ := hK.out
            refine Lib.hid (.inr ⟨hI.out.1.bad hno hcl ?_, rfl, rfl⟩)
            rcases okP_false hok.symm with h | h
            · exact .inl h
            · exact .inr (.inl h)
          go_wp2_with (first
            | (go_at_call 30; with_reducible refine hcut.mono ?_; rintro e w2 ⟨rfl, nq, rfl⟩; have hrd2 := hrd nq)
            | (go_at_call 31; with_reducible refine hrd2.mono ?_; rintro e w3 ⟨R, rfl, hrow, hft, hb3⟩; obtain ⟨A2, c2, hRv, _⟩ := hrow.val; subst hRv; have hbE := hbw.trans ((below_behind hb3).mono hbw.size); clear hrow hft hb3))
          rw [Exit.noGoto_ret]
          go_ret2
          exact ⟨_, [], 16, rfl, hbad.out, By.nil _, hbE⟩
        · by_cases hshort : k < 4 ∧ r ≠ []
          · have hbad : Hid (Read s0 [] 16) := by
              obtain ⟨hno, hok, hcl, hk, _⟩ := hK.out
              exact Lib.hid (.inr ⟨hI.out.1.bad hno hcl (.inr (.inr ⟨by rw [← hk]; exact hshort.1, hshort.2⟩)), rfl, rfl⟩)
            have h1 : (k : Int) < 4 := by omega
            have h2 : rB.toList.isEmpty = false := by rw [hre]; cases r <;> simp_all
            clear hre hshort
            go_wp2_with (first
              | (go_at_call 30; with_reducible refine hcut.mono ?_; rintro e w2 ⟨rfl, nq, rfl⟩; have hrd2 := hrd nq)
              | (go_at_call 31; with_reducible refine hrd2.mono ?_; rintro e w3 ⟨R, rfl, hrow, hft, hb3⟩; obtain ⟨A2, c2, hRv, _⟩ := hrow.val; subst hRv; have hbE := hbw.trans ((below_behind hb3).mono hbw.size); clear hrow hft hb3))
            rw [Exit.noGoto_ret]
            go_ret2
            exact ⟨_, [], 16, rfl, hbad.out, By.nil _, hbE⟩
          · have hnext : Hid ((1024 < np + k ∧ OfMid s0 p 17 r (pre ++ cl)) ∨ (np + k ≤ 1024 ∧ OfMid s0 (p ++ cl) n r (pre ++ cl))) := by
              obtain ⟨hno, hok, hcl, hk, hnp, _⟩ := hK.out
              obtain ⟨g1, g2⟩ := okP_true hok.symm
              rw [hk] at hshort hcl4 ⊢
              rw [hnp]
              exact Lib.hid (hI.out.1.next g1 hcl4 g2 hshort)
            have hq : (¬ (k : Int) < 4) ∨ ((k : Int) < 4 ∧ rB.toList.isEmpty = true) := by
              by_cases h4 : k < 4
              · right
                refine ⟨by omega, ?_⟩
                rw [hre]
                by_cases hr : r = []
                · rw [hr]; rfl
                · exact absurd ⟨h4, hr⟩ hshort
              · left; omega
            clear hshort hre
            rcases Nat.lt_or_ge 1024 (np + k) with hlong | hlong
            · have h1 : (1024 : Int) < (np : Int) + (k : Int) := by omega
              rcases hq with hq | ⟨hq, hq2⟩
              all_goals
                go_wp2_with (first
                  | (go_at_call 30; with_reducible refine hcut.mono ?_; rintro e w2 ⟨rfl, nq, rfl⟩; have hrd2 := hrd nq)
                  | (go_at_call 31; with_reducible refine hrd2.mono ?_; rintro e w3 ⟨R, rfl, hrow, hft, hb3⟩; obtain ⟨A2, c2, hRv, _⟩ := hrow.val; subst hRv; have hbX := below_behind hb3; clear hrow hft hb3))
                go_roundw
                case rel =>
                  obtain ⟨hno, hok, hcl, hk, hnp, hrB, _⟩ := hK.out
                  have hmid : OfMid s0 p 17 r (pre ++ cl) := by
                    rcases hnext.out with ⟨_, h⟩ | ⟨h, _⟩
                    · exact h
                    · omega
                  have hrow := hI.out.2.1
                  have hft := hI.out.2.2.1
                  rw [← hnp] at hrow hft
                  refine ⟨r, p, 17, pre ++ cl, A, c, by rw [hrB], by rw [hnp], rfl, by omega, by omega, by omega, by have := hsz; rw [hrB, str_size] at this; omega, Lib.hid ⟨hmid, ?_, ?_, hI.out.2.2.2.1.below hbX, hbw.trans (hbX.mono hbw.size)⟩⟩
                  · rw [← hnp]; exact hrow.below hbX
                  · rw [← hnp]; exact hft
                case measure => exact hsz
            · have h1 : ¬ (1024 : Int) < (np : Int) + (k : Int) := by omega
              rcases hq with hq | ⟨hq, hq2⟩
              all_goals
                go_wp2_with (first
                  | (go_at_call 30; with_reducible refine hcut.mono ?_; rintro e w2 ⟨rfl, nq, rfl⟩; have hrd2 := hrd nq)
                  | (go_at_call 31; with_reducible refine hrd2.mono ?_; rintro e w3 ⟨R, rfl, hrow, hft, hb3⟩; obtain ⟨A2, c2, hRv, _⟩ := hrow.val; subst hRv; have hbX := below_behind hb3; have hC3 := Lib.hid (Cs.of_row hrow)
                     have hP3 : Hid (Row w3 5 1 (.slice A np c) np (bys p)) := Lib.hid (by obtain ⟨_, _, _, _, hnp, _⟩ := hK.out; have := hI.out.2.1.below hbX; rw [← hnp] at this; exact this)
                     clear hrow hft hb3)
                  | (at_builtin; refine wpList_append_cs elt_bytes (by decide) _ rfl _ _ (by rfl) (by rfl) (by rfl) hP3.out hC3.out (by obtain ⟨_, _, _, hk, _⟩ := hK.out; rw [bys_length, hk, Nat.mul_one]) (bys_one _) (by unfold maxLen; omega) (by omega) (k := np + k) rfl ?_; intro A' c' w' hr hg hf))
                go_roundw
                case rel =>
                  obtain ⟨hno, hok, hcl, hk, hnp, hrB, _⟩ := hK.out
                  have hmid : OfMid s0 (p ++ cl) n r (pre ++ cl) := by
                    rcases hnext.out with ⟨h, _⟩ | ⟨_, h⟩
                    · omega
                    · exact h
                  have hft := hI.out.2.2.1
                  rw [← hnp] at hft
                  have hpl : (p ++ cl).length = np + k := by rw [List.length_append, hnp, hk]
                  have hb3 := hbw.trans (hbX.mono hbw.size)
                  refine ⟨r, p ++ cl, n, pre ++ cl, A', c', by rw [hrB], by rw [hpl], rfl, by omega, by omega, by omega, by have := hsz; rw [hrB, str_size] at this; omega, Lib.hid ⟨hmid, ?_, ?_, ?_, ?_⟩⟩
                  · rw [hpl, bys_append]; exact hr
                  · intro j hj
                    rw [hpl] at hj
                    rcases hf j hj with h | h
                    · exact hft j h
                    · exact Nat.le_trans hb3.size h
                  · exact World.ownsMap.kept (hI.out.2.2.2.1.below hbX) hg ((hI.out.2.2.2.1.below hbX).apart hP3.out)
                  · exact hb3.grown hg (by have := hb3.size; omega) (fun q hq => hft q (row_mem hq))
                case measure => exact hsz
end Go.Proofs
end
section
namespace Go.Proofs
open Go.RowKit
set_option linter.unusedVariables false
set_option linter.unusedSimpArgs false

/-! ### The document's reading: digits, words, numbers -/
def nibI (c : UInt8) : Int := match nib c with | some n => n | none => -1
theorem nib_at {c : UInt8} {k : Nat} (hk : k < 16) (h : hexDigit k = c) (hn : ∀ i, i < k → hexDigit i ≠ c) : nibI c = k := by
  have : nib c = some k := by
    unfold nib
    rw [List.find?_eq_some_iff_getElem]
    refine ⟨by simpa using h, k, by simpa using hk, by simp, fun j hj => ?_⟩
    simp; exact hn j hj
  unfold nibI; rw [this]
theorem nib_no {c : UInt8} (hn : ∀ i, i < 16 → hexDigit i ≠ c) : nibI c = -1 := by
  have : nib c = none := by
    unfold nib
    rw [List.find?_eq_none]
    intro i hi
    simp at hi ⊢
    exact hn i hi
  unfold nibI; rw [this]
set_option maxRecDepth 100000 in
theorem nibble_any (c : UInt8) (w : World) : Calls Tryd.prog 50 #[.int .u8 c.toNat] w fun e w' => e = .returned (.int .i64 (nibI c)) ∧ w' = w := by
  obtain ⟨res, hres⟩ : ∃ res, res = nibI c := ⟨_, rfl⟩
  rw [← hres]
  have hrH := Lib.hid hres
  have hdg := fun k (hk : k < 16) W => digit_any k hk W
  have hdH := Lib.hid hdg
  clear hres hdg
  go_enter Tryd.func50, Tryd.ntmps50
  go_wp2
  go_loopw [3] (fun iv wr => wr = w ∧ ∃ k : Nat, iv = .int .i64 k ∧ k ≤ 16 ∧ Hid (∀ i, i < k → hexDigit i ≠ c)) (fun iv _ => 16 - (intOf iv).toNat)
  case atStart => exact ⟨rfl, 0, rfl, by omega, Lib.hid (fun i hi => by omega)⟩
  case round =>
    obtain ⟨rfl, k, rfl, hk, hI⟩ := hrel
    by_cases hk16 : k < 16
    · have hd := hdH.out k hk16
      obtain ⟨D, hD⟩ : ∃ D : Int, D = ((hexDigit k).toNat : Int) := ⟨_, rfl⟩
      obtain ⟨C, hC⟩ : ∃ C : Int, C = (c.toNat : Int) := ⟨_, rfl⟩
      rw [← hD] at hd
      rw [← hC]
      have hiff : D = C ↔ hexDigit k = c := by
        rw [hD, hC]
        constructor
        · intro h; exact UInt8.toNat_inj.1 (by omega)
        · intro h; rw [h]
      have hK := Lib.hid (⟨hiff, hD, hC⟩ : _ ∧ _ ∧ _)
      have hw : IntKind.u8.wrap (k : Int) = (k : Int) := by rw [IntKind.wrap_u8]; omega
      by_cases he : D = C
      · have hres2 : res = (k : Int) := by rw [hrH.out]; exact nib_at hk16 (hiff.1 he) hI.out
        have hR := Lib.hid hres2
        have hq : (D == C) = true := by simpa using he
        clear hD hC hiff hres2
        go_wp2_with (go_at_call 33; refine (hd _).mono ?_; rintro e w' ⟨rfl, rfl⟩)
        go_ret
        exact ⟨by rw [hR.out]; rfl, rfl⟩
      · have hq : (D == C) = false := by simpa using he
        clear hD hC hiff
        go_wp2_with (go_at_call 33; refine (hd _).mono ?_; rintro e w' ⟨rfl, rfl⟩)
        go_roundw
        case rel =>
          refine ⟨?_, k + 1, by simp, by omega, Lib.hid (fun i hi => ?_)⟩
          · first | rfl | trivial
          · by_cases e : i = k
            · subst e; exact fun h => he (hK.out.1.2 h)
            · exact hI.out i (by omega)
        case measure => simp [intOf]; omega
    · obtain rfl : k = 16 := by omega
      have hres2 : res = -1 := by rw [hrH.out]; exact nib_no hI.out
      have hR := Lib.hid hres2
      clear hres2
      go_wp2
      go_ret
      exact ⟨by rw [hR.out]; rfl, rfl⟩
def strs (l : List (List UInt8)) : List Value := l.map fun s => .string ⟨s.toArray⟩
theorem strs_length (l : List (List UInt8)) : (strs l).length = l.length := by simp [strs]
theorem strs_append (a b : List (List UInt8)) : strs (a ++ b) = strs a ++ strs b := by simp [strs]
theorem strs_one (l : List (List UInt8)) : ∀ u ∈ strs l, u.oneCell' = true := by
  intro u hu
  simp only [strs, List.mem_map] at hu
  obtain ⟨x, _, rfl⟩ := hu; rfl
theorem extract_eq (s : List UInt8) (a b : Nat) : (⟨s.toArray⟩ : ByteArray).extract a b = ⟨((s.take b).drop a).toArray⟩ := by
  apply ByteArray.ext
  rw [ByteArray.data_extract]
  apply Array.ext'
  simp
  rw [List.drop_take]
set_option maxHeartbeats 1000000 in
set_option maxRecDepth 100000 in
theorem rcut_any (s : List UInt8) (hs : s.length ≤ 100000) (w : World) : Calls Tryd.prog 49 #[.string ⟨s.toArray⟩] w fun e w' => ∃ R, e = .returned R ∧ Row w' 9 1 R (cutAux [] s).length (strs (cutAux [] s)) ∧ (∀ k ∈ foot R, w.heap.size ≤ k) ∧ Below w.heap.size w w' := by
  obtain ⟨sB, hsB⟩ : ∃ sB : ByteArray, sB = ⟨s.toArray⟩ := ⟨_, rfl⟩
  obtain ⟨n, hn⟩ : ∃ n, n = s.length := ⟨_, rfl⟩
  have hz : sB.size = n := by rw [hsB, str_size, hn]
  rw [← hsB]
  have hsH := Lib.hid (⟨hsB, hn⟩ : _ ∧ _)
  rw [← hn] at hs
  clear hsB hn
  go_enter Tryd.func49, Tryd.ntmps49
  go_wp2
  go_loopw [3, 4, 5] (fun ov fv iv wr => ∃ (O : List (List UInt8)) (frm i : Nat) (A : Option Addr) (c : Nat), ov = .slice A O.length c ∧ fv = .int .i64 frm ∧ iv = .int .i64 i ∧ O.length ≤ i ∧ i ≤ n + 1 ∧ Hid (((i ≤ n ∧ frm ≤ i ∧ cutAux [] s = O ++ cutAux ((s.take i).drop frm) (s.drop i)) ∨ (i = n + 1 ∧ cutAux [] s = O)) ∧ Row wr 9 1 (.slice A O.length c) O.length (strs O) ∧ (∀ k ∈ foot (.slice A O.length c), w.heap.size ≤ k) ∧ Below w.heap.size w wr)) (fun _ _ iv _ => n + 1 - (intOf iv).toNat)
  case atStart => exact ⟨[], 0, 0, none, 0, rfl, rfl, rfl, by simp, by omega, Lib.hid ⟨.inl ⟨by omega, by omega, by simp⟩, Row.nil _ _ _, (fun k hk => by cases hk), Below.refl _ _⟩⟩
  case round =>
    obtain ⟨O, frm, i, A, c, rfl, rfl, rfl, hOi, hi, hI⟩ := hrel
    by_cases hin : i ≤ n
    · have hmid : frm ≤ i ∧ cutAux [] s = O ++ cutAux ((s.take i).drop frm) (s.drop i) := by
        rcases hI.out.1 with ⟨_, h1, h2⟩ | ⟨h, _⟩
        · exact ⟨h1, h2⟩
        · omega
      have hfi := hmid.1
      have hM := Lib.hid hmid
      obtain ⟨L, hL⟩ : ∃ L, L = O.length := ⟨_, rfl⟩
      rw [← hL] at hOi ⊢
      obtain ⟨cur, hcur⟩ : ∃ cur, cur = (s.take i).drop frm := ⟨_, rfl⟩
      obtain ⟨WB, hWB⟩ : ∃ WB : ByteArray, WB = ⟨cur.toArray⟩ := ⟨_, rfl⟩
      by_cases hie : i = n
      · subst hie
        have hq : ((i : Int) == (sB.size : Int)) = true := by simp; omega
        have f1 : (frm : Int) ≤ (i : Int) := by omega
        have f2 : (i : Int) ≤ (sB.size : Int) := by omega
        · have hex : sB.extract frm i = WB := by rw [hWB, hcur, hsH.out.1]; exact extract_eq s frm i
          have hbd := (Below.refl wr.heap.size wr).alloc (Nat.le_refl _) (.cells #[.string WB] 9)
          have hR2 : Hid (Row (wr.alloc (.cells #[.string WB] 9)) 9 1 (.slice A L c) L (strs O)) := Lib.hid (by have := hI.out.2.1.below hbd; rw [← hL] at this; exact this)
          have hC2 : Hid (Cs (wr.alloc (.cells #[.string WB] 9)) (.slice (some ⟨wr.heap.size, 0, none⟩) 1 1) 1 (strs [cur])) := Lib.hid (by
            have := Cs.new wr (strs [cur]) 9 1 (by unfold maxLen; omega)
            rw [hWB]; exact this)
          have hbdH := Lib.hid hbd
          have hLH := Lib.hid hL
          have hcH := Lib.hid hcur
          clear hbd hcur hWB hL hmid
          go_wp2_with (at_builtin; refine wpList_append_cs elt_strings (by decide) _ rfl _ _ (by rfl) (by rfl) (by rfl) hR2.out hC2.out rfl (strs_one [cur]) (by unfold maxLen; omega) (by omega) (k := L + 1) rfl ?_; intro A' c' w' hr hg hf)
          go_roundw
          case rel =>
            obtain ⟨h1, h2⟩ := hM.out
            have hb1 := hI.out.2.2.2.trans (hbdH.out.mono hI.out.2.2.2.size)
            have hl : (O ++ [cur]).length = L + 1 := by rw [List.length_append, hLH.out]; rfl
            have hft := hI.out.2.2.1
            rw [← hLH.out] at hft
            refine ⟨O ++ [cur], i + 1, i + 1, A', c', by rw [hl], by simp, by simp, by omega, by omega, Lib.hid ⟨?_, ?_, ?_, ?_⟩⟩
            · refine .inr ⟨rfl, ?_⟩
              rw [h2, ← hcH.out, List.drop_eq_nil_of_le (by have := hsH.out.2; omega)]
              try rfl
            · rw [hl, strs_append]; exact hr
            · intro j hj
              rw [hl] at hj
              rcases hf j hj with h | h
              · exact hft j h
              · exact Nat.le_trans hI.out.2.2.2.size (Nat.le_trans hbdH.out.size h)
            · exact hb1.grown hg (by have := hb1.size; omega) (fun q hq => hft q (row_mem hq))
          case measure => simp [intOf] <;> omega
      · obtain ⟨x, hx⟩ : ∃ x, s[i]? = some x := ⟨_, List.getElem?_eq_getElem (by have := hsH.out.2; omega)⟩
        have hdr : s.drop i = x :: s.drop (i + 1) := by
          obtain ⟨h1, h2⟩ := List.getElem?_eq_some_iff.1 hx
          rw [List.drop_eq_getElem_cons h1, h2]
        have htk : s.take (i + 1) = s.take i ++ [x] := take_snoc' hx
        have hix : ∀ W, (Instr.index 9 (.string sB) (.int .i64 i)).run Tryd.prog W = .ok (.int .u8 x.toNat) W := by
          intro W
          have hb : (0 : Int) ≤ (i : Int) ∧ (i : Int) < sB.size := by omega
          rw [run_index_string W 9 sB .i64 i Tryd.underlying9, dif_pos hb]
          obtain ⟨h1, h2⟩ := List.getElem?_eq_some_iff.1 hx
          have hs2 := hsH.out.1
          subst hs2
          show Result.ok (Value.int .u8 ((⟨s.toArray⟩ : ByteArray)[(i : Int).toNat]'_).toNat) W = _
          congr 3
          rw [← h2]; rfl
        have hq : ((i : Int) == (sB.size : Int)) = false := by simp; omega
        have f1 : (frm : Int) ≤ (i : Int) := by omega
        have f2 : (i : Int) ≤ (sB.size : Int) := by omega
        obtain ⟨X, hX⟩ : ∃ X : Int, X = (x.toNat : Int) := ⟨_, rfl⟩
        rw [← hX] at hix
        by_cases h32 : x = 32
        · have hX2 : X = 32 := by rw [hX, h32]; rfl
          subst hX2
          have hdH := Lib.hid (⟨hdr, htk, h32⟩ : _ ∧ _ ∧ _)
          clear hX hdr htk h32 hx
          have hex : sB.extract frm i = WB := by rw [hWB, hcur, hsH.out.1]; exact extract_eq s frm i
          have hbd := (Below.refl wr.heap.size wr).alloc (Nat.le_refl _) (.cells #[.string WB] 9)
          have hR2 : Hid (Row (wr.alloc (.cells #[.string WB] 9)) 9 1 (.slice A L c) L (strs O)) := Lib.hid (by have := hI.out.2.1.below hbd; rw [← hL] at this; exact this)
          have hC2 : Hid (Cs (wr.alloc (.cells #[.string WB] 9)) (.slice (some ⟨wr.heap.size, 0, none⟩) 1 1) 1 (strs [cur])) := Lib.hid (by
            have := Cs.new wr (strs [cur]) 9 1 (by unfold maxLen; omega)
            rw [hWB]; exact this)
          have hbdH := Lib.hid hbd
          have hLH := Lib.hid hL
          have hcH := Lib.hid hcur
          clear hbd hcur hWB hL hmid
          go_wp2_with (at_builtin; refine wpList_append_cs elt_strings (by decide) _ rfl _ _ (by rfl) (by rfl) (by rfl) hR2.out hC2.out rfl (strs_one [cur]) (by unfold maxLen; omega) (by omega) (k := L + 1) rfl ?_; intro A' c' w' hr hg hf)
          go_roundw
          case rel =>
            obtain ⟨h1, h2⟩ := hM.out
            have hb1 := hI.out.2.2.2.trans (hbdH.out.mono hI.out.2.2.2.size)
            have hl : (O ++ [cur]).length = L + 1 := by rw [List.length_append, hLH.out]; rfl
            have hft := hI.out.2.2.1
            rw [← hLH.out] at hft
            refine ⟨O ++ [cur], i + 1, i + 1, A', c', by rw [hl], by simp, by simp, by omega, by omega, Lib.hid ⟨?_, ?_, ?_, ?_⟩⟩
            · refine .inl ⟨by omega, Nat.le_refl _, ?_⟩
              obtain ⟨hdr, htk, h32⟩ := hdH.out
              have hnil : (s.take (i + 1)).drop (i + 1) = [] := List.drop_eq_nil_of_le (by rw [List.length_take]; omega)
              rw [h2, ← hcH.out, hdr, hnil, List.append_assoc]
              simp [cutAux, h32]
            · rw [hl, strs_append]; exact hr
            · intro j hj
              rw [hl] at hj
              rcases hf j hj with h | h
              · exact hft j h
              · exact Nat.le_trans hI.out.2.2.2.size (Nat.le_trans hbdH.out.size h)
            · exact hb1.grown hg (by have := hb1.size; omega) (fun q hq => hft q (row_mem hq))
          case measure => simp [intOf]; omega
        · have hX2 : (X == 32) = false := by
            have : X ≠ 32 := fun e => h32 (UInt8.toNat_inj.1 (by rw [hX] at e; show x.toNat = 32; omega))
            simpa using this
          have hX3 : X ≠ 32 := by simpa using hX2
          have hdH := Lib.hid (⟨hdr, htk, h32⟩ : _ ∧ _ ∧ _)
          have hLH := Lib.hid hL
          clear hX hdr htk h32 hx hmid hL hcur hWB
          go_wp2
          go_roundw
          case rel =>
            obtain ⟨h1, h2⟩ := hM.out
            obtain ⟨hdr, htk, h32⟩ := hdH.out
            refine ⟨O, frm, i + 1, A, c, by rw [hLH.out], rfl, by simp, by have := hLH.out; omega, by omega, Lib.hid ⟨.inl ⟨by omega, by omega, ?_⟩, hI.out.2.1, hI.out.2.2.1, hI.out.2.2.2⟩⟩
            rw [h2, hdr, htk, List.drop_append_of_le_length (by rw [List.length_take]; have := hsH.out.2; have := hLH.out; omega)]
            simp [cutAux, h32]
          case measure => simp [intOf]; omega
    · have hin1 : i = n + 1 := by omega
      have hall : cutAux [] s = O := by
        rcases hI.out.1 with ⟨h, _⟩ | ⟨_, h⟩
        · omega
        · exact h
      have hq : ¬ (i : Int) ≤ (sB.size : Int) := by omega
      have hA := Lib.hid hall
      clear hall hin1
      go_wp2
      go_ret
      refine ⟨_, rfl, ?_, hI.out.2.2.1, hI.out.2.2.2⟩
      rw [hA.out]; exact hI.out.2.1
end Go.Proofs
end
section
namespace Go.Proofs
open Go.RowKit
open Go.Lib
set_option linter.unusedVariables false
set_option linter.unusedSimpArgs false

theorem decAcc_snoc (l : List UInt8) (x : UInt8) : decAcc 0 (l ++ [x]) = 10 * decAcc 0 l + (x.toNat - 48) := by
  unfold decAcc; rw [List.foldl_append]; rfl
theorem decAcc_lt_aux : ∀ (l : List UInt8) (a : Nat), (∀ c ∈ l, dig c) → decAcc a l < (a + 1) * 10 ^ l.length
  | [], a, _ => by simp [decAcc]
  | c :: r, a, h => by
    have hc := h c (by simp)
    have ih := decAcc_lt_aux r (10 * a + (c.toNat - 48)) (fun x hx => h x (by simp [hx]))
    have e : decAcc a (c :: r) = decAcc (10 * a + (c.toNat - 48)) r := rfl
    rw [e, List.length_cons, Nat.pow_succ]
    unfold dig at hc
    have h2 : (10 * a + (c.toNat - 48) + 1) * 10 ^ r.length ≤ (10 * (a + 1)) * 10 ^ r.length := Nat.mul_le_mul_right _ (by omega)
    have h3 : (10 * (a + 1)) * 10 ^ r.length = (a + 1) * (10 ^ r.length * 10) := by rw [Nat.mul_comm 10 (a + 1), Nat.mul_assoc, Nat.mul_comm 10]
    omega
theorem decAcc_lt (l : List UInt8) (h : ∀ c ∈ l, dig c) : decAcc 0 l < 10 ^ l.length := by
  have := decAcc_lt_aux l 0 h
  simpa using this
theorem value_ix (s : List UInt8) (sB : ByteArray) (hs : sB = ⟨s.toArray⟩) (i : Nat) (x : UInt8) (hx : s[i]? = some x) (W : World) : (Instr.index 9 (.string sB) (.int .i64 i)).run Tryd.prog W = .ok (.int .u8 x.toNat) W := by
  subst hs
  obtain ⟨h1, h2⟩ := List.getElem?_eq_some_iff.1 hx
  have hb : (0 : Int) ≤ (i : Int) ∧ (i : Int) < (⟨s.toArray⟩ : ByteArray).size := by rw [str_size]; omega
  rw [run_index_string W 9 _ .i64 i Tryd.underlying9, dif_pos hb]
  congr 3
  rw [← h2]; rfl
set_option maxHeartbeats 2000000 in
set_option maxRecDepth 100000 in
theorem value_any (s : List UInt8) (hs : s.length ≤ 100000) (w : World) : Calls Tryd.prog 51 #[.string ⟨s.toArray⟩] w fun e w' => e = .returned (.tuple #[.int .i64 (valueP s).1, .bool (valueP s).2]) ∧ Below w.heap.size w w' := by
  obtain ⟨sB, hsB⟩ : ∃ sB : ByteArray, sB = ⟨s.toArray⟩ := ⟨_, rfl⟩
  obtain ⟨n, hn⟩ : ∃ n, n = s.length := ⟨_, rfl⟩
  obtain ⟨P, hP⟩ : ∃ P : Int, P = (valueP s).1 := ⟨_, rfl⟩
  obtain ⟨K, hK⟩ : ∃ K : Bool, K = (valueP s).2 := ⟨_, rfl⟩
  have hz : sB.size = n := by rw [hsB, str_size, hn]
  rw [← hsB, ← hP, ← hK]
  have hsH := Lib.hid (⟨hsB, hn⟩ : _ ∧ _)
  have hPK := Lib.hid (⟨hP, hK⟩ : _ ∧ _)
  rw [← hn] at hs
  clear hsB hn hP hK
  go_enter Tryd.func51, Tryd.ntmps51
  by_cases hneg : 1 < n ∧ s[0]? = some 45
  · have hix0 : ∀ W, (Instr.index 9 (.string sB) (.int .i64 0)).run Tryd.prog W = .ok (.int .u8 45) W := fun W => value_ix s sB hsH.out.1 0 45 hneg.2 W
    have hn1 : (1 : Int) < (n : Int) := by omega

    have ha : valueAt s = 1 := by unfold valueAt; rw [if_pos ⟨by have := hsH.out.2; omega, hneg.2⟩]
    by_cases hbad : n = 1 ∨ 8 < n
    · have hres2 : valueP s = (0, false) := by
        unfold valueP
        rw [if_neg]
        unfold valueOk
        rw [ha, decide_eq_false (by have := hsH.out.2; omega)]; simp
      have hP : P = 0 := by rw [hPK.out.1, hres2]
      have hK : K = false := by rw [hPK.out.2, hres2]
      have hR := Lib.hid (⟨hP, hK⟩ : _ ∧ _)
      clear hres2 hP hK ha
      have hq : (((1 : Int)) == (n : Int)) = decide (n = 1) := by
        by_cases e : n = 1
        · subst e; rfl
        · rw [decide_eq_false e]; simp; omega
      have hq2 : n ≠ 1 → (8 : Int) < (n : Int) := by omega
      by_cases he : n = 1
      · exact absurd he (by have := hneg.1; omega)
      · have hq3 : (((1 : Int)) == (n : Int)) = false := by rw [hq, decide_eq_false he]
        have hq4 := hq2 he
        have hq5 : (8 : Int) < (n : Int) := by omega
        clear hbad hq hq2
        go_wp2
        go_ret2
        exact ⟨by rw [hR.out.1, hR.out.2]; rfl, Below.refl _ _⟩
    · have hn8 : n ≤ 8 ∧ n ≠ 1 := by omega
      have hq3 : (((1 : Int)) == (n : Int)) = false := by simp; omega
      have hq5 : ¬ (8 : Int) < (n : Int) := by omega
      have haH := Lib.hid ha
      clear hbad ha
      go_wp2
      go_loopw [4, 6] (fun nv iv wr => wr = w ∧ ∃ (N : Int) (i : Nat), nv = .int .i64 N ∧ iv = .int .i64 i ∧ 1 ≤ i ∧ i ≤ n ∧ 0 ≤ N ∧ N < 100000000 ∧ Hid (N = (decAcc 0 ((s.take i).drop 1) : Int) ∧ ∀ c ∈ (s.take i).drop 1, dig c)) (fun _ iv _ => n - (RowKit.intOf iv).toNat)
      case atStart => exact ⟨rfl, 0, 1, rfl, rfl, by omega, by omega, by omega, by omega, Lib.hid ⟨by rw [List.drop_eq_nil_of_le (by rw [List.length_take]; omega)]; rfl, by rw [List.drop_eq_nil_of_le (by rw [List.length_take]; omega)]; intro c hc; cases hc⟩⟩
      case round =>
        obtain ⟨rfl, N, i, rfl, rfl, hi0, hi, N0, N1, hI⟩ := hrel
        by_cases hin : i < n
        · obtain ⟨x, hx⟩ : ∃ x, s[i]? = some x := ⟨_, List.getElem?_eq_getElem (by have := hsH.out.2; omega)⟩
          have htk : s.take (i + 1) = s.take i ++ [x] := take_snoc' hx
          have htk2 : (s.take (i + 1)).drop 1 = (s.take i).drop 1 ++ [x] := by
            rw [htk, List.drop_append_of_le_length (by rw [List.length_take]; have := hsH.out.2; omega)]
          have hix := fun W => value_ix s sB hsH.out.1 i x hx W
          have hl : ((s.take i).drop 1).length ≤ 7 := by rw [List.length_drop, List.length_take]; omega
          obtain ⟨X, hX⟩ : ∃ X : Int, X = (x.toNat : Int) := ⟨_, rfl⟩
          rw [← hX] at hix
          have hX0 : 0 ≤ X := by omega
          have hX1 : X < 256 := by have := x.toNat_lt; omega
          by_cases hd : dig x
          · have hd2 := hd
            unfold dig at hd2
            have k1 : ¬ X < 48 := by omega
            have k2 : ¬ 57 < X := by omega
            have hw1 : IntKind.u8.wrap (X - 48) = X - 48 := by rw [IntKind.wrap_u8]; omega
            have hN7 : N < 10000000 := by
              rw [hI.out.1]
              have := decAcc_lt _ hI.out.2
              have h2 := Nat.pow_le_pow_right (show 0 < 10 by decide) hl
              have h3 : (10 : Nat) ^ 7 = 10000000 := by decide
              omega
            have hdH := Lib.hid (⟨htk2, hX, hd⟩ : _ ∧ _ ∧ _)
            clear hd hd2 htk htk2 hX hl hx
            go_wp2
            go_roundw
            case rel =>
              obtain ⟨htk2, hX, hd⟩ := hdH.out
              refine ⟨?_, 10 * N + (X - 48), i + 1, ?_, by simp, by omega, by omega, by omega, by omega, Lib.hid ⟨?_, ?_⟩⟩
              · first | rfl | trivial
              · first | rfl | simp
              · rw [htk2, decAcc_snoc, hI.out.1]; unfold dig at hd; omega
              · rw [htk2]; intro c hc
                rcases List.mem_append.1 hc with h | h
                · exact hI.out.2 c h
                · rw [List.mem_singleton] at h; subst h; exact hd
            case measure => simp [RowKit.intOf] <;> omega
          · have hres2 : valueP s = (0, false) := by
              unfold valueP
              rw [if_neg]
              unfold valueOk
              rw [haH.out]
              intro h
              rw [Bool.and_eq_true, List.all_eq_true] at h
              have := h.2 x (List.mem_of_getElem? (i := i - 1) (by rw [List.getElem?_drop]; rw [show 1 + (i - 1) = i by omega]; exact hx))
              exact hd (of_decide_eq_true this)
            have hP : P = 0 := by rw [hPK.out.1, hres2]
            have hK : K = false := by rw [hPK.out.2, hres2]
            have hR := Lib.hid (⟨hP, hK⟩ : _ ∧ _)
            have hd2 : X < 48 ∨ ¬ X < 48 ∧ 57 < X := by unfold dig at hd; omega
            clear hres2 hP hK hd htk htk2 hX hl hx
            rcases hd2 with k | ⟨k, k2⟩
            · go_wp2
              go_ret2
              exact ⟨by rw [hR.out.1, hR.out.2]; rfl, Below.refl _ _⟩
            · go_wp2
              go_ret2
              exact ⟨by rw [hR.out.1, hR.out.2]; rfl, Below.refl _ _⟩
        · obtain rfl : i = n := by omega
          have hN : valueN s = -N := by
            have h := hI.out.1
            rw [List.take_of_length_le (by have := hsH.out.2; omega)] at h
            unfold valueN
            rw [haH.out, if_pos rfl, h]
          have hres2 : valueP s = (-N, itoa (-N) == s) := by
            unfold valueP
            rw [if_pos, hN]
            unfold valueOk
            rw [haH.out, decide_eq_true (by have := hsH.out.2; omega), Bool.true_and, List.all_eq_true]
            have h := hI.out.2
            rw [List.take_of_length_le (by have := hsH.out.2; omega)] at h
            intro c hc; exact decide_eq_true (h c hc)
          have hnum := num_any (-N) (by omega) (by omega) wr
          obtain ⟨LB, hLB⟩ : ∃ LB : ByteArray, LB = ⟨(itoa (-N)).toArray⟩ := ⟨_, rfl⟩
          rw [← hLB] at hnum
          have hcmp : K = (LB.toList == sB.toList) := by
            rw [hPK.out.2, hres2, hLB, hsH.out.1, str_beq]
            show _ = _
            rw [Bool.eq_iff_iff]; simp
          have hP : P = -N := by rw [hPK.out.1, hres2]
          have hR := Lib.hid (⟨hP, hcmp⟩ : _ ∧ _)
          clear hres2 hLB hN hP hcmp
          go_wp2_with (go_at_call 47; refine hnum.mono ?_; rintro e w1 ⟨rfl, hb1⟩)
          go_ret2
          exact ⟨by rw [hR.out.1, hR.out.2]; first | rfl | simp, hb1⟩

  · rcases Nat.lt_or_ge 1 n with h1n | h1n
    · obtain ⟨x0, hx0⟩ : ∃ x, s[0]? = some x := ⟨_, List.getElem?_eq_getElem (by have := hsH.out.2; omega)⟩
      have hne : x0 ≠ 45 := fun e => hneg ⟨h1n, by rw [hx0, e]⟩
      have hix0 : ∀ W, (Instr.index 9 (.string sB) (.int .i64 0)).run Tryd.prog W = .ok (.int .u8 x0.toNat) W := fun W => value_ix s sB hsH.out.1 0 x0 hx0 W
      obtain ⟨X0, hX0⟩ : ∃ X : Int, X = (x0.toNat : Int) := ⟨_, rfl⟩
      rw [← hX0] at hix0
      have hq45 : (X0 == 45) = false := by
        have h2 : X0 ≠ 45 := fun e => hne (UInt8.toNat_inj.1 (by show x0.toNat = 45; omega))
        simpa using h2
      have hn1 : (1 : Int) < (n : Int) := by omega
      clear hX0 hne hx0

      have ha : valueAt s = 0 := by unfold valueAt; rw [if_neg (by rintro ⟨h1, h2⟩; exact hneg ⟨by have := hsH.out.2; omega, h2⟩)]
      by_cases hbad : n = 0 ∨ 8 < n
      · have hres2 : valueP s = (0, false) := by
          unfold valueP
          rw [if_neg]
          unfold valueOk
          rw [ha, decide_eq_false (by have := hsH.out.2; omega)]; simp
        have hP : P = 0 := by rw [hPK.out.1, hres2]
        have hK : K = false := by rw [hPK.out.2, hres2]
        have hR := Lib.hid (⟨hP, hK⟩ : _ ∧ _)
        clear hres2 hP hK ha
        have hq : (((0 : Int)) == (n : Int)) = decide (n = 0) := by
          by_cases e : n = 0
          · subst e; rfl
          · rw [decide_eq_false e]; simp; omega
        have hq2 : n ≠ 0 → (8 : Int) < (n : Int) := by omega
        by_cases he : n = 0
        · have hq3 : (((0 : Int)) == (n : Int)) = true := by rw [hq, decide_eq_true he]
          clear hbad hq hq2
          go_wp2
          go_ret2
          exact ⟨by rw [hR.out.1, hR.out.2]; rfl, Below.refl _ _⟩
        · have hq3 : (((0 : Int)) == (n : Int)) = false := by rw [hq, decide_eq_false he]
          have hq4 := hq2 he
          have hq5 : (8 : Int) < (n : Int) := by omega
          clear hbad hq hq2
          go_wp2
          go_ret2
          exact ⟨by rw [hR.out.1, hR.out.2]; rfl, Below.refl _ _⟩
      · have hn8 : n ≤ 8 ∧ n ≠ 0 := by omega
        have hq3 : (((0 : Int)) == (n : Int)) = false := by simp; omega
        have hq5 : ¬ (8 : Int) < (n : Int) := by omega
        have haH := Lib.hid ha
        clear hbad ha
        go_wp2
        go_loopw [4, 6] (fun nv iv wr => wr = w ∧ ∃ (N : Int) (i : Nat), nv = .int .i64 N ∧ iv = .int .i64 i ∧ 0 ≤ i ∧ i ≤ n ∧ 0 ≤ N ∧ N < 100000000 ∧ Hid (N = (decAcc 0 ((s.take i).drop 0) : Int) ∧ ∀ c ∈ (s.take i).drop 0, dig c)) (fun _ iv _ => n - (RowKit.intOf iv).toNat)
        case atStart => exact ⟨rfl, 0, 0, rfl, rfl, by omega, by omega, by omega, by omega, Lib.hid ⟨by rw [List.drop_eq_nil_of_le (by rw [List.length_take]; omega)]; rfl, by rw [List.drop_eq_nil_of_le (by rw [List.length_take]; omega)]; intro c hc; cases hc⟩⟩
        case round =>
          obtain ⟨rfl, N, i, rfl, rfl, hi0, hi, N0, N1, hI⟩ := hrel
          by_cases hin : i < n
          · obtain ⟨x, hx⟩ : ∃ x, s[i]? = some x := ⟨_, List.getElem?_eq_getElem (by have := hsH.out.2; omega)⟩
            have htk : s.take (i + 1) = s.take i ++ [x] := take_snoc' hx
            have htk2 : (s.take (i + 1)).drop 0 = (s.take i).drop 0 ++ [x] := by
              rw [htk, List.drop_append_of_le_length (by rw [List.length_take]; have := hsH.out.2; omega)]
            have hix := fun W => value_ix s sB hsH.out.1 i x hx W
            have hl : ((s.take i).drop 0).length ≤ 7 := by rw [List.length_drop, List.length_take]; omega
            obtain ⟨X, hX⟩ : ∃ X : Int, X = (x.toNat : Int) := ⟨_, rfl⟩
            rw [← hX] at hix
            have hX0 : 0 ≤ X := by omega
            have hX1 : X < 256 := by have := x.toNat_lt; omega
            by_cases hd : dig x
            · have hd2 := hd
              unfold dig at hd2
              have k1 : ¬ X < 48 := by omega
              have k2 : ¬ 57 < X := by omega
              have hw1 : IntKind.u8.wrap (X - 48) = X - 48 := by rw [IntKind.wrap_u8]; omega
              have hN7 : N < 10000000 := by
                rw [hI.out.1]
                have := decAcc_lt _ hI.out.2
                have h2 := Nat.pow_le_pow_right (show 0 < 10 by decide) hl
                have h3 : (10 : Nat) ^ 7 = 10000000 := by decide
                omega
              have hdH := Lib.hid (⟨htk2, hX, hd⟩ : _ ∧ _ ∧ _)
              clear hd hd2 htk htk2 hX hl hx
              go_wp2
              go_roundw
              case rel =>
                obtain ⟨htk2, hX, hd⟩ := hdH.out
                refine ⟨?_, 10 * N + (X - 48), i + 1, ?_, by simp, by omega, by omega, by omega, by omega, Lib.hid ⟨?_, ?_⟩⟩
                · first | rfl | trivial
                · first | rfl | simp
                · rw [htk2, decAcc_snoc, hI.out.1]; unfold dig at hd; omega
                · rw [htk2]; intro c hc
                  rcases List.mem_append.1 hc with h | h
                  · exact hI.out.2 c h
                  · rw [List.mem_singleton] at h; subst h; exact hd
              case measure => simp [RowKit.intOf] <;> omega
            · have hres2 : valueP s = (0, false) := by
                unfold valueP
                rw [if_neg]
                unfold valueOk
                rw [haH.out]
                intro h
                rw [Bool.and_eq_true, List.all_eq_true] at h
                have := h.2 x (List.mem_of_getElem? (i := i - 0) (by rw [List.getElem?_drop]; rw [show 0 + (i - 0) = i by omega]; exact hx))
                exact hd (of_decide_eq_true this)
              have hP : P = 0 := by rw [hPK.out.1, hres2]
              have hK : K = false := by rw [hPK.out.2, hres2]
              have hR := Lib.hid (⟨hP, hK⟩ : _ ∧ _)
              have hd2 : X < 48 ∨ ¬ X < 48 ∧ 57 < X := by unfold dig at hd; omega
              clear hres2 hP hK hd htk htk2 hX hl hx
              rcases hd2 with k | ⟨k, k2⟩
              · go_wp2
                go_ret2
                exact ⟨by rw [hR.out.1, hR.out.2]; rfl, Below.refl _ _⟩
              · go_wp2
                go_ret2
                exact ⟨by rw [hR.out.1, hR.out.2]; rfl, Below.refl _ _⟩
          · obtain rfl : i = n := by omega
            have hN : valueN s = N := by
              have h := hI.out.1
              rw [List.take_of_length_le (by have := hsH.out.2; omega)] at h
              unfold valueN
              rw [haH.out, if_neg (by omega), h]; rfl
            have hres2 : valueP s = (N, itoa (N) == s) := by
              unfold valueP
              rw [if_pos, hN]
              unfold valueOk
              rw [haH.out, decide_eq_true (by have := hsH.out.2; omega), Bool.true_and, List.all_eq_true]
              have h := hI.out.2
              rw [List.take_of_length_le (by have := hsH.out.2; omega)] at h
              intro c hc; exact decide_eq_true (h c hc)
            have hnum := num_any (N) (by omega) (by omega) wr
            obtain ⟨LB, hLB⟩ : ∃ LB : ByteArray, LB = ⟨(itoa (N)).toArray⟩ := ⟨_, rfl⟩
            rw [← hLB] at hnum
            have hcmp : K = (LB.toList == sB.toList) := by
              rw [hPK.out.2, hres2, hLB, hsH.out.1, str_beq]
              show _ = _
              rw [Bool.eq_iff_iff]; simp
            have hP : P = N := by rw [hPK.out.1, hres2]
            have hR := Lib.hid (⟨hP, hcmp⟩ : _ ∧ _)
            clear hres2 hLB hN hP hcmp
            go_wp2_with (go_at_call 47; refine hnum.mono ?_; rintro e w1 ⟨rfl, hb1⟩)
            go_ret2
            exact ⟨by rw [hR.out.1, hR.out.2]; first | rfl | simp, hb1⟩

    · have hn1 : ¬ (1 : Int) < (n : Int) := by omega
      have ha : valueAt s = 0 := by unfold valueAt; rw [if_neg (by rintro ⟨h1, h2⟩; exact hneg ⟨by have := hsH.out.2; omega, h2⟩)]
      by_cases hbad : n = 0 ∨ 8 < n
      · have hres2 : valueP s = (0, false) := by
          unfold valueP
          rw [if_neg]
          unfold valueOk
          rw [ha, decide_eq_false (by have := hsH.out.2; omega)]; simp
        have hP : P = 0 := by rw [hPK.out.1, hres2]
        have hK : K = false := by rw [hPK.out.2, hres2]
        have hR := Lib.hid (⟨hP, hK⟩ : _ ∧ _)
        clear hres2 hP hK ha
        have hq : (((0 : Int)) == (n : Int)) = decide (n = 0) := by
          by_cases e : n = 0
          · subst e; rfl
          · rw [decide_eq_false e]; simp; omega
        have hq2 : n ≠ 0 → (8 : Int) < (n : Int) := by omega
        by_cases he : n = 0
        · have hq3 : (((0 : Int)) == (n : Int)) = true := by rw [hq, decide_eq_true he]
          clear hbad hq hq2
          go_wp2
          go_ret2
          exact ⟨by rw [hR.out.1, hR.out.2]; rfl, Below.refl _ _⟩
        · have hq3 : (((0 : Int)) == (n : Int)) = false := by rw [hq, decide_eq_false he]
          have hq4 := hq2 he
          have hq5 : (8 : Int) < (n : Int) := by omega
          clear hbad hq hq2
          go_wp2
          go_ret2
          exact ⟨by rw [hR.out.1, hR.out.2]; rfl, Below.refl _ _⟩
      · have hn8 : n ≤ 8 ∧ n ≠ 0 := by omega
        have hq3 : (((0 : Int)) == (n : Int)) = false := by simp; omega
        have hq5 : ¬ (8 : Int) < (n : Int) := by omega
        have haH := Lib.hid ha
        clear hbad ha
        go_wp2
        go_loopw [4, 6] (fun nv iv wr => wr = w ∧ ∃ (N : Int) (i : Nat), nv = .int .i64 N ∧ iv = .int .i64 i ∧ 0 ≤ i ∧ i ≤ n ∧ 0 ≤ N ∧ N < 100000000 ∧ Hid (N = (decAcc 0 ((s.take i).drop 0) : Int) ∧ ∀ c ∈ (s.take i).drop 0, dig c)) (fun _ iv _ => n - (RowKit.intOf iv).toNat)
        case atStart => exact ⟨rfl, 0, 0, rfl, rfl, by omega, by omega, by omega, by omega, Lib.hid ⟨by rw [List.drop_eq_nil_of_le (by rw [List.length_take]; omega)]; rfl, by rw [List.drop_eq_nil_of_le (by rw [List.length_take]; omega)]; intro c hc; cases hc⟩⟩
        case round =>
          obtain ⟨rfl, N, i, rfl, rfl, hi0, hi, N0, N1, hI⟩ := hrel
          by_cases hin : i < n
          · obtain ⟨x, hx⟩ : ∃ x, s[i]? = some x := ⟨_, List.getElem?_eq_getElem (by have := hsH.out.2; omega)⟩
            have htk : s.take (i + 1) = s.take i ++ [x] := take_snoc' hx
            have htk2 : (s.take (i + 1)).drop 0 = (s.take i).drop 0 ++ [x] := by
              rw [htk, List.drop_append_of_le_length (by rw [List.length_take]; have := hsH.out.2; omega)]
            have hix := fun W => value_ix s sB hsH.out.1 i x hx W
            have hl : ((s.take i).drop 0).length ≤ 7 := by rw [List.length_drop, List.length_take]; omega
            obtain ⟨X, hX⟩ : ∃ X : Int, X = (x.toNat : Int) := ⟨_, rfl⟩
            rw [← hX] at hix
            have hX0 : 0 ≤ X := by omega
            have hX1 : X < 256 := by have := x.toNat_lt; omega
            by_cases hd : dig x
            · have hd2 := hd
              unfold dig at hd2
              have k1 : ¬ X < 48 := by omega
              have k2 : ¬ 57 < X := by omega
              have hw1 : IntKind.u8.wrap (X - 48) = X - 48 := by rw [IntKind.wrap_u8]; omega
              have hN7 : N < 10000000 := by
                rw [hI.out.1]
                have := decAcc_lt _ hI.out.2
                have h2 := Nat.pow_le_pow_right (show 0 < 10 by decide) hl
                have h3 : (10 : Nat) ^ 7 = 10000000 := by decide
                omega
              have hdH := Lib.hid (⟨htk2, hX, hd⟩ : _ ∧ _ ∧ _)
              clear hd hd2 htk htk2 hX hl hx
              go_wp2
              go_roundw
              case rel =>
                obtain ⟨htk2, hX, hd⟩ := hdH.out
                refine ⟨?_, 10 * N + (X - 48), i + 1, ?_, by simp, by omega, by omega, by omega, by omega, Lib.hid ⟨?_, ?_⟩⟩
                · first | rfl | trivial
                · first | rfl | simp
                · rw [htk2, decAcc_snoc, hI.out.1]; unfold dig at hd; omega
                · rw [htk2]; intro c hc
                  rcases List.mem_append.1 hc with h | h
                  · exact hI.out.2 c h
                  · rw [List.mem_singleton] at h; subst h; exact hd
              case measure => simp [RowKit.intOf] <;> omega
            · have hres2 : valueP s = (0, false) := by
                unfold valueP
                rw [if_neg]
                unfold valueOk
                rw [haH.out]
                intro h
                rw [Bool.and_eq_true, List.all_eq_true] at h
                have := h.2 x (List.mem_of_getElem? (i := i - 0) (by rw [List.getElem?_drop]; rw [show 0 + (i - 0) = i by omega]; exact hx))
                exact hd (of_decide_eq_true this)
              have hP : P = 0 := by rw [hPK.out.1, hres2]
              have hK : K = false := by rw [hPK.out.2, hres2]
              have hR := Lib.hid (⟨hP, hK⟩ : _ ∧ _)
              have hd2 : X < 48 ∨ ¬ X < 48 ∧ 57 < X := by unfold dig at hd; omega
              clear hres2 hP hK hd htk htk2 hX hl hx
              rcases hd2 with k | ⟨k, k2⟩
              · go_wp2
                go_ret2
                exact ⟨by rw [hR.out.1, hR.out.2]; rfl, Below.refl _ _⟩
              · go_wp2
                go_ret2
                exact ⟨by rw [hR.out.1, hR.out.2]; rfl, Below.refl _ _⟩
          · obtain rfl : i = n := by omega
            have hN : valueN s = N := by
              have h := hI.out.1
              rw [List.take_of_length_le (by have := hsH.out.2; omega)] at h
              unfold valueN
              rw [haH.out, if_neg (by omega), h]; rfl
            have hres2 : valueP s = (N, itoa (N) == s) := by
              unfold valueP
              rw [if_pos, hN]
              unfold valueOk
              rw [haH.out, decide_eq_true (by have := hsH.out.2; omega), Bool.true_and, List.all_eq_true]
              have h := hI.out.2
              rw [List.take_of_length_le (by have := hsH.out.2; omega)] at h
              intro c hc; exact decide_eq_true (h c hc)
            have hnum := num_any (N) (by omega) (by omega) wr
            obtain ⟨LB, hLB⟩ : ∃ LB : ByteArray, LB = ⟨(itoa (N)).toArray⟩ := ⟨_, rfl⟩
            rw [← hLB] at hnum
            have hcmp : K = (LB.toList == sB.toList) := by
              rw [hPK.out.2, hres2, hLB, hsH.out.1, str_beq]
              show _ = _
              rw [Bool.eq_iff_iff]; simp
            have hP : P = N := by rw [hPK.out.1, hres2]
            have hR := Lib.hid (⟨hP, hcmp⟩ : _ ∧ _)
            clear hres2 hLB hN hP hcmp
            go_wp2_with (go_at_call 47; refine hnum.mono ?_; rintro e w1 ⟨rfl, hb1⟩)
            go_ret2
            exact ⟨by rw [hR.out.1, hR.out.2]; first | rfl | simp, hb1⟩

end Go.Proofs
end
