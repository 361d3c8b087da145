/-
  Behind Prune just the descendants are gone, and all others are as they were (stage 12).
-/
import Derived.Test.YthgdkaldnaeijaaM9
import Derived.Deep.RegionWith
import Derived.Test.YthgdkaldnaeijaaRows
import Derived.WalkKit
import Derived.Below
import Derived.ChangeSame
import Derived.Test.YthgdkaldnaeijaaM8
import Derived.ProofKit
import Derived.OpenShut
section
namespace Go.Proofs
open Go.RowKit
set_option linter.unusedVariables false
set_option linter.unusedSimpArgs false

theorem eql_ptr_nil (o : Nat) (w : World) : (binOp .eql 25 (ptr o) (.pointer none)).run Try.prog w = .ok (.bool false) w := by kernel_rfl
attribute [local go_sem] eql_ptr_nil
theorem under_nat (u : Fo) (k n : Nat) : u.under ((k : Nat) : Int) ((n : Nat) : Int) ↔ Anc u n k := by
  unfold Fo.under
  simp
/-- What a prune leaves, place by place. -/
theorem pruned_has {u : Fo} {n k : Nat} {l : List Nat} (hl : Pre u (u.kids n) l) {b : Bool} (hb : b = true ↔ u.under ((k : Nat) : Int) ((n : Nat) : Int)) : (u.prune n l).has ((k : Nat) : Int) = (u.there k && !b) := by
  rw [Fo.has_nat]
  show (u.there k && !decide (k ∈ l)) = _
  have : decide (k ∈ l) = b := by
    rw [under_nat, ← hl.desc k] at hb
    cases b with
    | true => simpa using hb
    | false => simpa using hb
  rw [this]
theorem pruned_rest {u : Fo} (hw : u.WF) {n k : Nat} {l : List Nat} (hl : Pre u (u.kids n) l) (hk : (u.prune n l).has ((k : Nat) : Int) = true) (hkn : k ≠ n) :
    parI (u.prune n l) (k : Nat) = parI u (k : Nat) ∧ (u.prune n l).kidsI (k : Nat) = u.kidsI (k : Nat) := by
  have hk2 := hk
  rw [Fo.has_nat] at hk2
  have hk3 : (u.there k && !decide (k ∈ l)) = true := hk2
  simp at hk3
  have hku : u.has ((k : Nat) : Int) = true := by rw [Fo.has_nat]; exact hk3.1
  constructor
  · unfold parI
    rw [if_pos hk, if_pos hku]
    have : (u.prune n l).par ((k : Nat) : Int).toNat = u.par ((k : Nat) : Int).toNat := by
      show (if k ∈ l then none else u.par k) = u.par k
      rw [if_neg hk3.2]
    rw [this]
  · unfold Fo.kidsI
    rw [if_pos (by omega), if_pos (by omega)]
    show (if k = n ∨ k ∈ l then [] else u.kids k) = u.kids k
    rw [if_neg (by rintro (h | h); exact hkn h; exact hk3.2 h)]
theorem pruned_kids (u : Fo) (n : Nat) (l : List Nat) : (u.prune n l).kidsI (n : Nat) = [] := by
  unfold Fo.kidsI
  rw [if_pos (by omega)]
  show (if n = n ∨ n ∈ l then [] else u.kids n) = []
  rw [if_pos (.inl rfl)]
set_option maxHeartbeats 25600000 in
set_option maxRecDepth 100000 in
theorem prunes_any (n : Int) (V : Value) (acts : List ActT) (x : Int) (hx0 : -9223372036854775808 ≤ x) (hx1 : x ≤ 9223372036854775807) (w : World) (hV : ActsT w V acts) :
    Calls Try.prog 4 #[.int .i64 n, V, .int .i64 x] w fun e w' => e = .returned (.bool true) ∧ Chg [] w w' := by
  have HK := Lib.hid known_any
  obtain ⟨A2, c2, rfl⟩ := hV.open_
  obtain ⟨m, hm⟩ : ∃ m, m = acts.length := ⟨_, rfl⟩
  rw [← hm] at hV ⊢
  have HV := Lib.hid hV
  clear hV hm
  have HM := Lib.hid (much_any n 80 A2 m c2)
  obtain ⟨b, hb⟩ : ∃ b, b = muchB n m 80 := ⟨_, rfl⟩
  rw [← hb] at HM
  cases b with
  | true =>
    clear hb
    go_enter Try.func4, Try.ntmps4
    go_wp2_with (first
      | (go_at_call 9; refine (HM.out _).mono ?_; rintro e w1 ⟨rfl, hc⟩; have HC := Lib.hid hc; clear hc)
      | (go_at_call 10; refine (HK.out _).mono ?_; rintro e w2 ⟨rfl, hc⟩))
    go_ret
    exact ⟨rfl, HC.out.then hc⟩
  | false =>
    obtain ⟨n1, n2, hm80⟩ := muchB_false hb.symm
    obtain ⟨s, rfl⟩ : ∃ s : Nat, n = s := ⟨n.toNat, by omega⟩
    clear hb
    have HN := Lib.hid (new_any s (by omega) (by omega))
    have HR := Lib.hid (rnew_any s (by omega) (by omega))
    have hs1 : 1 ≤ s := by omega
    have hs2 : s ≤ 4096 := by omega
    go_enter Try.func4, Try.ntmps4
    go_wp2_with (first
      | (go_at_call 9; refine (HM.out _).mono ?_; rintro e w1 ⟨rfl, hc⟩; have HC := Lib.hid hc; clear hc)
      | (go_at_call 11; refine (HN.out _).mono ?_; rintro e w2 ⟨rfl, hT, hc⟩; have HTR := Lib.hid hT; have hfs := HC.out.size; have HC := Lib.hid (HC.out.then hc); clear hc hT)
      | (go_at_call 12; refine (HR.out _).mono ?_; rintro e w3 ⟨d, T, rfl, hR, hTn, hc⟩; have HMID := Lib.hid (mid_new hs1 hs2 HC.out HTR.out hfs hR hTn hc); clear hR hTn hc hfs HTR HC))
    obtain ⟨f, hf⟩ : ∃ f, f = w1.heap.size := ⟨_, rfl⟩
    rw [← hf] at HMID ⊢
    clear hf
    go_loopg [10] m (fun gh iv wr => ∃ (j : Nat) (t : Fo), j + gh = m ∧ iv = .int .i64 j ∧ Hid (Mid w wr f d t j))
    case atStart => exact ⟨0, _, by omega, rfl, HMID⟩
    case round =>
      obtain ⟨j, t, hj, rfl, HMI⟩ := hrel
      by_cases hlt : j < m
      · have j0 : (0 : Int) ≤ (j : Int) := by omega
        have j1 : (j : Int) < (m : Int) := by omega
        obtain ⟨bI, oI, kd, nn, hA, hcells⟩ := HV.out.at_ hlt
        subst hA
        obtain ⟨z0, z1, z2⟩ := hcells wr HMI.out.chg
        have HDO := Lib.hid (HMI.out.do (by omega) kd nn)
        have d1 : decide ((j : Int) < (m : Int)) = true := by simpa using j1
        clear HV hcells
        go_wp2_with (go_at_call 13; refine HDO.out.mono ?_; rintro e w4 ⟨rfl, t', hM'⟩; have HM' := Lib.hid hM'; clear hM')
        go_roundg (m - j - 1)
        case measure => omega
        case rel => exact ⟨j + 1, t', by omega, by go_num, HM'⟩
      · have d1 : decide ((j : Int) < (m : Int)) = false := by simp; omega
        clear HMID HV HN HR HM
        have HCP := Lib.hid HMI.out.copy
        obtain ⟨l, hl⟩ := Below'.exists (show t.WF from by obtain ⟨S, T, K, ⟨c, r, a1, a2, a3, a4, a5⟩, h2, h3, h4, h5⟩ := HMI.out; exact a2.wf) x
        cases hx : t.has x with
        | false =>
          have hl0 : l = [] := by unfold Below' at hl; rw [hx, if_neg (by simp)] at hl; exact hl
          subst hl0
          have HPR := Lib.hid (fun W o (hq : Was w W f o d t t) => show Calls Try.prog 16 #[ptr f, .int .i64 x] W (fun e W' => ∃ A cc, e = .returned (.tuple #[.slice A 0 cc, .int .i64 4]) ∧ Was w W' f o d t t) from by
            have := hq.prune hl
            unfold Fo.noE Fo.pruneI at this
            rw [hx, if_neg (by simp), if_neg (by simp)] at this
            exact this)
          have HSM := Lib.hid (fun W o (hq : Was w W f o d t t) => hq.same (b := true) ⟨fun _ => Alike.refl t, fun _ => rfl⟩)
          clear hl HMI
          go_wp2_with (first
            | (go_at_call 15; refine HCP.out.mono ?_; rintro e w5 ⟨o, rfl, hq⟩; have HQ := Lib.hid hq; clear hq)
            | (go_at_call 16; refine (HPR.out _ _ HQ.out).mono ?_; rintro e w6 ⟨A, cc, rfl, hq⟩; have HQ := Lib.hid hq; clear hq)
            | (go_at_call 17; refine (HQ.out.dhas hx).mono ?_; rintro e w7 ⟨rfl, hq⟩; have HQ := Lib.hid hq; clear hq)
            | (go_at_call 18; refine (HSM.out _ _ HQ.out).mono ?_; rintro e w8 ⟨rfl, hq⟩; have HQ := Lib.hid hq; clear hq)
            | (go_at_call 10; refine HQ.out.known.mono ?_; rintro e w9 ⟨rfl, hq⟩))
          go_ret
          exact ⟨rfl, hq.chg⟩
        | true =>
          obtain ⟨q, rfl⟩ : ∃ q : Nat, x = q := ⟨x.toNat, by
            by_cases h0 : 0 ≤ x
            · omega
            · rw [Fo.has_neg _ (by omega)] at hx; cases hx⟩
          have hq0 : t.there q = true := by rw [← Fo.has_nat]; exact hx
          have hl1 : Pre t (t.kids q) l := by unfold Below' at hl; rw [hx, if_pos rfl] at hl; exact hl
          have hwf : t.WF := by obtain ⟨S, T, K, ⟨c, r, a1, a2, a3, a4, a5⟩, h2, h3, h4, h5⟩ := HMI.out; exact a2.wf
          have hbig : t.size ≤ 4096 := by obtain ⟨S, T, K, ⟨c, r, a1, a2, a3, a4, a5⟩, h2, h3, h4, h5⟩ := HMI.out; exact a2.big
          have HPR := Lib.hid (fun W o (hq : Was w W f o d t t) => show Calls Try.prog 16 #[ptr f, .int .i64 (q : Nat)] W (fun e W' => ∃ A cc, e = .returned (.tuple #[.slice A l.length cc, .int .i64 0]) ∧ Was w W' f o d (t.prune q l) t) from by
            have := hq.prune hl
            unfold Fo.noE Fo.pruneI at this
            rw [hx, if_pos rfl, if_pos rfl] at this
            exact this)
          have hlen := Fo.len_prune hwf hl1
          obtain ⟨L1, hL1⟩ : ∃ L1, (t.prune q l).len = L1 := ⟨_, rfl⟩
          rw [hL1] at hlen
          have hll := hwf.pre_len hl1
          have hfz : (t.roots).length ≤ 8192 := by have := hwf.row_len none; have : t.roots.length ≤ t.size := this; omega
          obtain ⟨ll, hll9⟩ : ∃ ll, l.length = ll := ⟨_, rfl⟩
          rw [hll9] at HPR hlen hll
          have hL2 : L1 ≤ 4096 := by have := hwf.len; omega
          have HPL := Lib.hid hl1
          have HWF := Lib.hid hwf
          have HKN := Lib.hid (pruned_kids t q l)
          have HRT := Lib.hid (show (t.prune q l).roots = t.roots from rfl)
          obtain ⟨U, hU⟩ : ∃ U, t.len = U := ⟨_, rfl⟩
          have hU2 : U ≤ 4096 := by have := hwf.len; omega
          have HTL := Lib.hid hU
          have HL1 := Lib.hid hL1
          have esub : ((U : Nat) : Int) - ((ll : Nat) : Int) = ((L1 : Nat) : Int) := by omega
          obtain ⟨t', ht'⟩ : ∃ t', t' = t.prune q l := ⟨_, rfl⟩
          have HT' := Lib.hid ht'
          rw [← ht'] at HPR HKN HRT HL1
          clear hl hl1 hwf HMI hlen hL1 hll9 ht' hU
          go_wp2_with (first
            | (go_at_call 15; refine HCP.out.mono ?_; rintro e w5 ⟨o, rfl, hq⟩; have HQ := Lib.hid hq; clear hq)
            | (go_at_call 16; refine (HPR.out _ _ HQ.out).mono ?_; rintro e w6 ⟨A, cc, rfl, hq⟩; have HQ := Lib.hid hq; clear hq)
            | (go_at_call 17; refine (HQ.out.dhas hx).mono ?_; rintro e w7 ⟨rfl, hq⟩; have HQ := Lib.hid hq; clear hq)
            | (go_at_call 19; refine (HQ.out.fkids HKN.out).mono ?_; rintro e w8 ⟨A8, c8, rfl, _, hq, _⟩; have HQ := Lib.hid hq; clear hq)
            | (go_at_call_of 20 (ptr f); refine (HQ.out.flen HL1.out).mono ?_; rintro e w9 ⟨rfl, hq⟩; have HQ := Lib.hid hq; clear hq)
            | (go_at_call_of 20 (ptr o); refine (HQ.out.olen HTL.out).mono ?_; rintro e w10 ⟨rfl, hq⟩; have HQ := Lib.hid hq; clear hq)
            | (go_at_call_of 22 (ptr f); refine (HQ.out.froots HRT.out).mono ?_; rintro e w11 ⟨A11, c11, rfl, hr, hq, _⟩; have HQ := Lib.hid hq; have HR1 := Lib.hid hr; clear hq hr)
            | (go_at_call_of 22 (ptr o); refine (HQ.out.oroots rfl).mono ?_; rintro e w12 ⟨A12, c12, rfl, hr, hq, hc⟩; have HQ := Lib.hid hq; have HR2 := Lib.hid hr; have HR1 := Lib.hid (HR1.out.quiet hc); clear hq hr hc)
            | (go_at_call 21; refine (HQ.out.ints HR1.out HR2.out hfz).mono ?_; rintro e w13 ⟨rfl, hq⟩; have HQ := Lib.hid hq; clear hq))
          clear HPR HKN HRT HTL HL1 HR1 HR2 HCP
          go_loopg [14] s (fun gh iv wr => ∃ (k : Nat), k + gh = s ∧ iv = .int .i64 k ∧ Hid (Was w wr f o d t' t))
          case atStart => exact ⟨0, by omega, rfl, HQ⟩
          case round =>
            obtain ⟨k, hk, rfl, HQ⟩ := hrel
            by_cases hlt2 : k < s
            · have e1 : decide ((k : Int) < (s : Int)) = true := by simp; omega
              obtain ⟨b, hb⟩ : ∃ b : Bool, b = true ↔ t.under ((k : Nat) : Int) ((q : Nat) : Int) := by
                by_cases hu : t.under ((k : Nat) : Int) ((q : Nat) : Int)
                · exact ⟨true, by simp [hu]⟩
                · exact ⟨false, by simp [hu]⟩
              have hph := pruned_has HPL.out hb
              rw [← HT'.out] at hph
              have HU := Lib.hid (fun W (hq : Was w W f o d t' t) => hq.ounder hb)
              obtain ⟨x0, hx9⟩ : ∃ x0, t.there k = x0 := ⟨_, rfl⟩
              rw [hx9] at hph
              have HO := Lib.hid (fun W (hq : Was w W f o d t' t) => hq.ohas ((Fo.has_nat t k).trans hx9))
              have HF := Lib.hid (fun W (hq : Was w W f o d t' t) => hq.fhas hph)
              have HPH := Lib.hid hph
              clear hb hph hx9
              cases x0 with
              | false =>
                go_wp2_with (first
                  | (go_at_call_of 23 (ptr f); refine (HF.out _ HQ.out).mono ?_; rintro e w8 ⟨rfl, hq⟩; have HQ := Lib.hid hq; clear hq)
                  | (go_at_call_of 23 (ptr o); refine (HO.out _ HQ.out).mono ?_; rintro e w9 ⟨rfl, hq⟩; have HQ := Lib.hid hq; clear hq))
                go_roundg (s - k - 1)
                case measure => omega
                case rel => exact ⟨k + 1, by omega, by go_num, HQ⟩
              | true =>
                cases b with
                | true =>
                  go_wp2_with (first
                    | (go_at_call_of 23 (ptr f); refine (HF.out _ HQ.out).mono ?_; rintro e w8 ⟨rfl, hq⟩; have HQ := Lib.hid hq; clear hq)
                    | (go_at_call_of 23 (ptr o); refine (HO.out _ HQ.out).mono ?_; rintro e w9 ⟨rfl, hq⟩; have HQ := Lib.hid hq; clear hq)
                    | (go_at_call 24; refine (HU.out _ HQ.out).mono ?_; rintro e w10 ⟨rfl, hq⟩; have HQ := Lib.hid hq; clear hq))
                  go_roundg (s - k - 1)
                  case measure => omega
                  case rel => exact ⟨k + 1, by omega, by go_num, HQ⟩
                | false =>
                  by_cases hkq : k = q
                  · subst hkq
                    have e2 : (((k : Nat) : Int) == ((k : Nat) : Int)) = true := by simp
                    go_wp2_with (first
                      | (go_at_call_of 23 (ptr f); refine (HF.out _ HQ.out).mono ?_; rintro e w8 ⟨rfl, hq⟩; have HQ := Lib.hid hq; clear hq)
                      | (go_at_call_of 23 (ptr o); refine (HO.out _ HQ.out).mono ?_; rintro e w9 ⟨rfl, hq⟩; have HQ := Lib.hid hq; clear hq)
                      | (go_at_call 24; refine (HU.out _ HQ.out).mono ?_; rintro e w10 ⟨rfl, hq⟩; have HQ := Lib.hid hq; clear hq))
                    go_roundg (s - k - 1)
                    case measure => omega
                    case rel => exact ⟨k + 1, by omega, by go_num, HQ⟩
                  · have e2 : (((k : Nat) : Int) == ((q : Nat) : Int)) = false := by simp; omega
                    obtain ⟨r1, r2⟩ := pruned_rest HWF.out HPL.out (by rw [← HT'.out]; exact HPH.out) hkq
                    rw [← HT'.out] at r1 r2
                    obtain ⟨⟨P, B⟩, hPB⟩ : ∃ pb, parI t ((k : Nat) : Int) = pb := ⟨_, rfl⟩
                    obtain ⟨ks, hks⟩ : ∃ ks, t.kidsI ((k : Nat) : Int) = ks := ⟨_, rfl⟩
                    have hkl : ks.length ≤ 8192 := by
                      have h1 := HWF.out.row_len (some k)
                      have h2 : t.kidsI ((k : Nat) : Int) = t.row (some k) := by unfold Fo.kidsI; rw [if_pos (by omega)]; rfl
                      rw [← hks, h2]; omega
                    have HP1 := Lib.hid (fun W (hq : Was w W f o d t' t) => hq.fpar (r1.trans hPB))
                    have HP2 := Lib.hid (fun W (hq : Was w W f o d t' t) => hq.opar hPB)
                    have HK1 := Lib.hid (fun W (hq : Was w W f o d t' t) => hq.fkids (r2.trans hks))
                    have HK2 := Lib.hid (fun W (hq : Was w W f o d t' t) => hq.okids hks)
                    have hpp : (P != P) = false := by simp
                    have hbb : (B != B) = false := by simp
                    clear r1 r2 hPB hks hkq
                    go_wp2_with (first
                      | (go_at_call_of 23 (ptr f); refine (HF.out _ HQ.out).mono ?_; rintro e w8 ⟨rfl, hq⟩; have HQ := Lib.hid hq; clear hq)
                      | (go_at_call_of 23 (ptr o); refine (HO.out _ HQ.out).mono ?_; rintro e w9 ⟨rfl, hq⟩; have HQ := Lib.hid hq; clear hq)
                      | (go_at_call 24; refine (HU.out _ HQ.out).mono ?_; rintro e w10 ⟨rfl, hq⟩; have HQ := Lib.hid hq; clear hq)
                      | (go_at_call_of 25 (ptr f); refine (HP1.out _ HQ.out).mono ?_; rintro e w11 ⟨rfl, hq⟩; have HQ := Lib.hid hq; clear hq)
                      | (go_at_call_of 25 (ptr o); refine (HP2.out _ HQ.out).mono ?_; rintro e w12 ⟨rfl, hq⟩; have HQ := Lib.hid hq; clear hq)
                      | (go_at_call_of 19 (ptr f); refine (HK1.out _ HQ.out).mono ?_; rintro e w13 ⟨A13, c13, rfl, hr, hq, _⟩; have HQ := Lib.hid hq; have HR1 := Lib.hid hr; clear hq hr)
                      | (go_at_call_of 19 (ptr o); refine (HK2.out _ HQ.out).mono ?_; rintro e w14 ⟨A14, c14, rfl, hr, hq, hc⟩; have HQ := Lib.hid hq; have HR2 := Lib.hid hr; have HR1 := Lib.hid (HR1.out.quiet hc); clear hq hr hc)
                      | (go_at_call 21; refine (HQ.out.ints HR1.out HR2.out hkl).mono ?_; rintro e w15 ⟨rfl, hq⟩; have HQ := Lib.hid hq; clear hq))
                    go_roundg (s - k - 1)
                    case measure => omega
                    case rel => exact ⟨k + 1, by omega, by go_num, HQ⟩
            · have e1 : decide ((k : Int) < (s : Int)) = false := by simp; omega
              go_wp2_with (go_at_call 10; refine HQ.out.known.mono ?_; rintro e w9 ⟨rfl, hq⟩)
              go_ret
              exact ⟨rfl, hq.chg⟩
end Go.Proofs
end
section
namespace Go.Proofs.Ythgdkaldnaeijaa.treePrunes
open Go.ChangeShapes Go.WideShapes Go.ChangeAt Go.RowKit
set_option linter.unusedVariables false

theorem own : ownKnob Try.prog.godebug = none := by kernel_rfl

set_option maxRecDepth 100000 in
theorem lifted (os : Os) (started : os.Started) (H : Type) (enc : TypeId × Value → H) :
    ReturnsInHanded {} Try.checked os 4 .any (Rows.treePrunesSpec.pre6 enc Try.prog Try.f4 Rows.treePrunesRow.domain false) (Rows.treePrunesSpec.post enc Try.prog Try.f4 false true false false) := by
  refine returnsInHanded_of_change (C := Try.checked) own started (by kernel_rfl) Try.func4
    (ChangeSpec.witness6 (enc := enc) (C := Try.checked) false ⟨#[], #[.int .i64 0, .slice none 0 0, .int .i64 0], []⟩ 8 (by kernel_rfl) (by kernel_rfl) (by kernel_rfl) (by kernel_rfl)) ?_
  intro W base args ds gs before hval0 hW hcnd _
  have hval : ∀ (j : Nat) t v, Try.f4.params[j]? = some t → args[j]? = some v → Value.okWide Try.prog W .any base t v := hval0
  have hW' := hW
  obtain ⟨p, q, hA0, hV, rfl, hfz, hnd⟩ := hW
  have hA : DataW.TrodAll enc Try.prog W 0 (fun _ => true) true Try.f4.params.toList args.toList ds p := hA0
  rw [Try.params4] at hA hval
  obtain ⟨v0, vs0, d0, ds0, p0, q0, hargs, rfl, rfl, h0, r0⟩ := trodAll_cons hA
  obtain ⟨v1, vs1, d1, ds1, p1, q1, rfl, rfl, rfl, h1, r1⟩ := trodAll_cons r0
  obtain ⟨v2, vs2, d2, ds2, p2, q2, rfl, rfl, rfl, h2, r2⟩ := trodAll_cons r1
  obtain ⟨rfl, rfl, rfl⟩ := trodAll_nil r2
  obtain rfl : args = #[v0, v1, v2] := by cases args; simp_all
  obtain ⟨rfl, rfl⟩ := trodVars_none hV
  obtain ⟨a0, rfl, rfl, rfl, w0⟩ := open_int Try.underlying3 (hval 0 3 v0 rfl rfl) h0
  obtain ⟨a2, rfl, rfl, rfl, w2⟩ := open_int Try.underlying3 (hval 2 3 v2 rfl rfl) h2
  clear hA0 hval0
  simp only [List.append_nil, List.nil_append] at hW'
  obtain ⟨b0, c0⟩ := bounds_i64 w0
  have hlt1 : ∀ x ∈ p1, x.block < W.heap.size := fun x hx => hW'.lt x (by simp [hx])
  obtain ⟨l1, hl1⟩ := open_acts (hval 1 22 v1 rfl rfl) h1
  obtain ⟨b2, c2⟩ := bounds_i64 w2
  refine (prunes_any _ _ _ _ b2 (by omega) _ hl1).mono fun e W' ⟨he, hc⟩ => ?_
  have hg := hc.to_below
  subst he
  exact ⟨_, rfl, post_of_below (pa := ([] ++ (p1 ++ ([] ++ [])))) (pv := []) hW' (fun _ _ _ => (trodAll_cons_mk (shut_bool Try.underlying4 _) trodAll_mk0)) (fun sp hsp => (trodAll_cons_mk (shut_int Try.underlying3 w0) (trodAll_cons_mk (WideElems.Trod_stays Try.laidOut (by kernel_rfl) (of_decide_eq_true (by kernel_rfl)) h1 (fun x hx => hg.same (hlt1 x hx)) (fun x hx => hsp x (by simp [hx]))) (trodAll_cons_mk (shut_int Try.underlying3 w2) trodAll_mk0)))) (fun _ _ => rfl) (by simp)
    hg (ok_one (by kernel_rfl) rfl (okWide_bool_mk Try.underlying4 _))⟩

theorem over : Rows.treePrunesRow.holds Try.pinned (OpenSpec.ofChange Rows.treePrunesSpec) :=
  OpenClaim.holds_of_wide 4 Try.f4 rfl rfl rfl rfl rfl rfl rfl ⟨rfl, rfl, rfl, rfl, rfl⟩ rfl rfl rfl rfl rfl (by kernel_rfl) Try.func4 (by kernel_rfl)
    (of_decide_eq_true (by kernel_rfl)) (by unfold Func.isWrapper; first | (rw [if_pos (by decide +kernel)]; kernel_rfl) | (rw [if_neg (by decide +kernel)]; exact ⟨rfl, rfl⟩))
    (fun os started H enc _ => lifted os started H enc)

/-- ████ THE STATEMENT ████ -/
theorem proved : Rows.TreePrunesSaid :=
  over
#print axioms proved
end Go.Proofs.Ythgdkaldnaeijaa.treePrunes
end
