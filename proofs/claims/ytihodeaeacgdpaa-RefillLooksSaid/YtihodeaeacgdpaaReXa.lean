import Derived.Test.YtihodeaeacgdpaaReW
namespace Go.Proofs
open Go.RowKit
set_option linter.unusedVariables false

theorem same_yes {w : World} {v1 v2 : Value} {l : List Rf} (h1 : In w v1 l) (h2 : In w v2 l) (hn : l.length ≤ 100000) :
    Calls Try.prog 21 #[v1, v2] w fun e w' => e = .returned (.bool true) ∧ Chg [] w w' := by
  have := same_any h1 h2 hn
  rwa [decide_eq_true rfl] at this
theorem Mine.rd {w0 w : World} {v : Value} {l : List Rf} (h : Mine w0 w v l) : Rd w v l := h.1
theorem Mine.now {w0 w : World} {v : Value} {l : List Rf} (h : Mine w0 w v l) : Chg [] w0 w := h.2.2
/-- A block of a new list stands apart from one that was there. -/
theorem Mine.apart {w0 w w1 : World} {v u : Value} {l m : List Rf} (h : Mine w0 w v l) (k : Rd w1 u m) (hs : w1.heap.size ≤ w0.heap.size) : ∀ j ∈ foot u, j ∉ foot v := fun j hj hm => by
  have h1 := h.2.1 j hm
  have h2 := k.lt j hj
  omega
/-- In the midst of turning a list: it is some list still, and nothing else has turned. -/
def Turned (w0 wx : World) (v : Value) (n : Nat) : Prop := ∃ cur : List Rf, cur.length = n ∧ Rd wx v cur ∧ Chg (foot v) w0 wx
theorem Turned.start {w0 : World} {v : Value} {l : List Rf} {n : Nat} (h : Rd w0 v l) (hn : l.length = n) : Turned w0 w0 v n := ⟨l, hn, h, Chg.refl _ _⟩
theorem Turned.form {w0 wx : World} {A : Option Addr} {n c k : Nat} (h : Turned w0 wx (.slice A n c) n) (hk : k < n) : ∃ b o a t, A = some ⟨b, o, none⟩ ∧ wx.cell? ⟨b, o + k * 2, none⟩ = some (.int .u64 a) ∧ wx.cell? ⟨b, o + k * 2 + 1, none⟩ = some (.int .u64 t) ∧ (∀ j, wx.frozen? ⟨b, j, none⟩ = false) ∧
    (∀ u, Turned w0 (wx.setCell ⟨b, o + k * 2, none⟩ (.int .u64 u)) (.slice A n c) n) ∧ ∀ u, Turned w0 (wx.setCell ⟨b, o + k * 2 + 1, none⟩ (.int .u64 u)) (.slice A n c) n := by
  obtain ⟨cur, rfl, h1, h2⟩ := h
  obtain ⟨b, o, c', hv, _, lb, hfz, hc⟩ := h1.form (by omega)
  simp only [Value.slice.injEq] at hv
  obtain ⟨rfl, _, rfl⟩ := hv
  obtain ⟨x, hx⟩ : ∃ x, cur[k]? = some x := ⟨_, List.getElem?_eq_getElem hk⟩
  obtain ⟨q0, q1⟩ := hc k x hx
  refine ⟨b, o, x.1, x.2, rfl, q0, q1, hfz, fun u => ⟨cur.set k (u, x.2), by simp, rd_cell h1 (by omega) (by simp) (rfs_set1 cur k x u hx), h2.setCell (p := ⟨b, o + k * 2, none⟩) (.inl (by simp [foot_some])) _⟩,
    fun u => ⟨cur.set k (x.1, u), by simp, rd_cell (j := k * 2 + 1) h1 (by omega) (by simp) (rfs_set2 cur k x u hx), h2.setCell (p := ⟨b, o + k * 2 + 1, none⟩) (.inl (by simp [foot_some])) _⟩⟩
set_option maxHeartbeats 6400000 in
set_option maxRecDepth 100000 in
theorem charges_any (v : Value) (l : List Rf) (now per most : Int) (w : World) (h : In w v l) (hk : Ok l) (hnow : U64 now) (hper : U64 per) :
    Calls Try.prog 4 #[v, .int .u64 now, .int .u64 per, .int .i64 most] w fun e w' => e = .returned (.bool true) ∧ Chg [] w w' := by
  obtain ⟨A, c, rfl, _⟩ := h.open_
  obtain ⟨N, e1⟩ : ∃ N, N = l.length := ⟨_, rfl⟩
  have HH := Lib.hid h
  rw [← e1] at HH ⊢
  by_cases hN : (N : Int) > 60
  · have g0 : decide ((N : Int) > 60) = true := by simpa using hN
    have g0' : decide ((60 : Int) < (N : Int)) = true := by simpa using hN
    clear h e1 hN
    go_enter Try.func4, Try.ntmps4
    go_wp2_with (go_at_call 9; refine (known_any _).mono ?_; rintro e w1 ⟨rfl, h1⟩; have H1 := Lib.hid h1; clear h1)
    go_ret
    exact ⟨rfl, H1.out⟩
  · have g0 : decide ((N : Int) > 60) = false := by simpa using hN
    have g0' : decide ((60 : Int) < (N : Int)) = false := by simpa using hN
    have hn : l.length ≤ 100000 := by omega
    have HOW := Lib.hid (own_any HH.out hn)
    have HE := Lib.hid e1.symm
    have HHN := Lib.hid hn
    by_cases hc : canP l now per most
    · obtain ⟨u1, u2, u3, u4, u5⟩ := use_facts hk hnow.1 hper.1 hc
      have ut := use_there hk hnow.1 hper.1 hc
      have HCH := Lib.hid (fun W V (hV : Rd W V l) => charge_any (now := now) (per := per) (most := most) hV hk hn hnow hper)
      have HRC := Lib.hid (fun W V (hV : In W V l) => rcharge_any (now := now) (per := per) (most := most) hV hk hn hnow hper)
      rw [chargeP_yes hc] at HCH HRC
      obtain ⟨L, hL⟩ : ∃ L, L = useP l now per most := ⟨_, rfl⟩
      rw [← hL] at HCH HRC u1 u2 u3 u4 ut
      have hms := (mayP_iff.1 u2).1
      obtain ⟨s1, s2⟩ := sum_all hms
      obtain ⟨s3, s4⟩ := sum_all (l := l) (by omega)
      obtain ⟨n, hn9⟩ : ∃ n, n = L.length := ⟨_, rfl⟩
      have hdl := due_len (l := l) now
      have hLn : L.length ≤ 100000 := by
        have h1 : L.length ≤ (decP (dueL l now) 1).length + 1 := by
          rw [hL]
          unfold useP backP
          split
          · split <;> simp
          · simp
        have h2 : (decP (dueL l now) 1).length ≤ (dueL l now).length := by
          cases hd : dueL l now with
          | nil => simp [decP]
          | cons x r =>
            obtain ⟨a, t⟩ := x
            have := dec_len a t r 1
            simpa using this
        omega
      have HSU := Lib.hid (fun W V (hV : In W V l) => rsum_any hV hk hn)
      have HSU2 := Lib.hid (fun W V (hV : Rd W V L) => Sum_any hV u1 hLn)
      rw [s3, s4] at HSU
      rw [s1, s2, u3] at HSU2
      obtain ⟨S, hS⟩ : ∃ S, S = sumP l := ⟨_, rfl⟩
      rw [← hS] at HSU HSU2
      have HMY := Lib.hid (fun W V (hV : In W V L) => rmay_any hV u1 hLn)
      rw [u2] at HMY
      have HTB := Lib.hid (fun W V (hV : In W V L) => rthere_any hV u1 hLn now)
      have HTL := Lib.hid (fun W V (hV : In W V l) => rthere_any hV hk hn now)
      obtain ⟨T1, hT1⟩ : ∃ T, T = thereP L now := ⟨_, rfl⟩
      obtain ⟨T2, hT2⟩ : ∃ T, T = thereP l now := ⟨_, rfl⟩
      rw [← hT1] at HTB ut
      rw [← hT2] at HTL ut
      have g1 : decide (T1 ≤ T2) = true := by simpa using ut
      have g2 : decide ((n : Int) ≤ most) = true := by rw [hn9]; simpa using u4
      have g3 : (S == S) = true := by simp
      have HLN := Lib.hid hLn
      have HN9 := Lib.hid hn9.symm
      have HN7 := Lib.hid (show n ≤ 100000 by omega)
      clear h hk hn e1 hN hc u1 u2 u3 u4 u5 ut hL hms s1 s2 s3 s4 hn9 hdl hLn hS hT1 hT2
      go_enter Try.func4, Try.ntmps4
      go_wp2_with (first
        | (go_at_call 10; refine HOW.out.mono ?_; rintro e w1 ⟨v1, rfl, h1⟩; obtain ⟨A1, c1, rfl⟩ := h1.rd.val HE.out; have H1 := Lib.hid h1; clear h1)
        | (go_at_call 23; refine (HCH.out _ _ H1.out.rd).mono ?_; rintro e w2 ⟨v2, rfl, h1⟩; obtain ⟨A2, c2, rfl⟩ := h1.rd.val HN9.out; have H2 := Lib.hid h1; clear h1)
        | (go_at_call 24; refine (HRC.out _ _ (HH.out.quiet (H1.out.2.2.then H2.out.now))).mono ?_; rintro e w3 ⟨v3, rfl, h1⟩; obtain ⟨A3, c3, rfl⟩ := h1.rd.val HN9.out; have H3 := Lib.hid h1; have HIA := Lib.hid (H2.out.rd.quiet h1.now).inn; have HIB := Lib.hid h1.rd.inn; have HIM := Lib.hid (H1.out.rd.quiet (H2.out.now.then h1.now)).inn; have HIL := Lib.hid (HH.out.quiet ((H1.out.2.2.then H2.out.now).then h1.now)); clear h1)
        | (go_at_call 21; have q := same_yes HIA.out HIB.out HLN.out; (with_reducible refine q.mono ?_); rintro e w4 ⟨rfl, h1⟩; have H4 := Lib.hid h1; have HIM4 := Lib.hid (HIM.out.quiet h1); have HIL4 := Lib.hid (HIL.out.quiet h1); clear h1 q)
        | (go_at_call 21; have q := same_yes HIM4.out HIL4.out HHN.out; (with_reducible refine q.mono ?_); rintro e w5 ⟨rfl, h1⟩; have H5 := Lib.hid (H4.out.then h1); have HIL5 := Lib.hid (HIL4.out.quiet h1); have HA5 := Lib.hid (H2.out.rd.quiet (H3.out.now.then (H4.out.then h1))); clear h1 q)
        | (go_at_call 12; refine (HSU.out _ _ HIL5.out).mono ?_; rintro e w6 ⟨rfl, rfl⟩)
        | (go_at_call 11; refine (HSU2.out _ _ HA5.out).mono ?_; rintro e w6 ⟨rfl, h1⟩; have H6 := Lib.hid (H5.out.then h1); have HT6 := Lib.hid (Turned.start (HA5.out.quiet h1) HN9.out); clear h1))
      have HAFTER := Lib.hid (show ∀ wx, Turned w6 wx (.slice A2 n c2) n → In wx (.slice A3 n c3) L ∧ In wx (.slice A1 N c1) l ∧ In wx (.slice A N c) l ∧ Chg [] w wx from fun wx hx => by
        obtain ⟨cur, _, _, hch⟩ := hx
        have hz1 := H1.out.2.2.size
        have hz2 := H2.out.now.size
        have hz3 := H3.out.now.size
        have hz6 := H6.out.size
        have c36 : Chg (foot (.slice A2 n c2)) w3 wx := (H6.out.any).trans hch (fun k hk => .inl hk)
        have hnew : ∀ k ∈ foot (.slice A2 n c2), w1.heap.size ≤ k := H2.out.2.1
        have call : Chg (foot (.slice A2 n c2)) w wx := (((H1.out.2.2.then H2.out.now).then H3.out.now).any).trans c36 (fun k hk => .inl hk)
        refine ⟨(H3.out.rd.chg c36 (fun j hj hm => ?_)).inn, ((H1.out.rd.quiet (H2.out.now.then H3.out.now)).chg c36 (fun j hj hm => ?_)).inn, HH.out.chg call (fun j hm => ?_) , ?_⟩
        · have := H3.out.2.1 j hj
          have := H2.out.rd.lt j hm
          omega
        · have := hnew j hm
          have := H1.out.rd.lt j hj
          omega
        · have := hnew j hm; omega
        · exact ((H1.out.2.2.then H2.out.now).then H3.out.now).trans c36 (fun k hk => .inr (by have := hnew k hk; omega)))
      clear H4 HIM4 HIL4 HIL5 HA5 HIA HIB HIM HIL
      have hn7 := HN7.out
      go_loopg [18] n (fun gh i wx => ∃ k : Nat, k + gh = n ∧ i = .int .i64 k ∧ Hid (Turned w6 wx (.slice A2 n c2) n))
      case atStart => exact ⟨0, by omega, rfl, Lib.hid HT6.out⟩
      case round =>
        obtain ⟨k, hk, rfl, HR⟩ := hrel
        by_cases hlt : k < n
        · have k0 : (0 : Int) ≤ (k : Int) := by omega
          have k1 : (k : Int) < (n : Int) := by omega
          obtain ⟨b, o, a, t, rfl, q0, q1, hfz, _, r1⟩ := HR.out.form hlt
          have f1 := hfz (o + k * 2 + 1)
          have HR1 := Lib.hid r1
          clear hfz r1
          go_wp2
          go_roundg (n - k - 1)
          case measure => omega
          case rel => exact ⟨k + 1, by omega, by go_num, Lib.hid (HR1.out _)⟩
        · obtain rfl : k = n := by omega
          obtain ⟨a1, a2, a3, a4⟩ := HAFTER.out _ HR.out
          have B1 := Lib.hid a1
          have B2 := Lib.hid a2
          have B3 := Lib.hid a3
          have B4 := Lib.hid a4
          clear a1 a2 a3 a4
          go_wp2_with (first
            | (go_at_call 16; refine (HMY.out _ _ B1.out).mono ?_; rintro e w7 ⟨rfl, h1⟩; have H7 := Lib.hid h1; clear h1)
            | (go_at_call 18; have q := HTB.out _ _ (B1.out.quiet H7.out); (with_reducible refine q.mono ?_); rintro e w8 ⟨rfl, rfl⟩; clear q)
            | (go_at_call 18; have q := HTL.out _ _ (B3.out.quiet H7.out); (with_reducible refine q.mono ?_); rintro e w8 ⟨rfl, rfl⟩; clear q)
            | (go_at_call 21; refine (same_yes (B2.out.quiet H7.out) (B3.out.quiet H7.out) HHN.out).mono ?_; rintro e w9 ⟨rfl, h1⟩; have H9 := Lib.hid (H7.out.then h1); clear h1)
            | (go_at_call 9; refine (known_any _).mono ?_; rintro e w10 ⟨rfl, h1⟩; have H10 := Lib.hid (H9.out.then h1); clear h1))
          go_ret
          exact ⟨rfl, B4.out.then H10.out⟩
    · have HCH := Lib.hid (fun W V (hV : Rd W V l) => charge_any (now := now) (per := per) (most := most) hV hk hn hnow hper)
      have HRC := Lib.hid (fun W V (hV : In W V l) => rcharge_any (now := now) (per := per) (most := most) hV hk hn hnow hper)
      rw [chargeP_no hc] at HCH HRC
      clear h hk hn e1 hN hc
      go_enter Try.func4, Try.ntmps4
      go_wp2_with (first
        | (go_at_call 10; refine HOW.out.mono ?_; rintro e w1 ⟨v1, rfl, h1⟩; obtain ⟨A1, c1, rfl⟩ := h1.rd.val HE.out; have H1 := Lib.hid h1; clear h1)
        | (go_at_call 23; refine (HCH.out _ _ H1.out.rd).mono ?_; rintro e w2 ⟨v2, rfl, h1⟩; obtain ⟨A2, c2, rfl⟩ := h1.rd.val (n := 0) rfl; have H2 := Lib.hid h1; clear h1)
        | (go_at_call 24; refine (HRC.out _ _ (HH.out.quiet (H1.out.2.2.then H2.out.now))).mono ?_; rintro e w3 ⟨v3, rfl, h1⟩; obtain ⟨A3, c3, rfl⟩ := h1.rd.val (n := 0) rfl; have H3 := Lib.hid h1; have HIA := Lib.hid (H2.out.rd.quiet h1.now).inn; have HIB := Lib.hid h1.rd.inn; have HIM := Lib.hid (H1.out.rd.quiet (H2.out.now.then h1.now)).inn; have HIL := Lib.hid (HH.out.quiet ((H1.out.2.2.then H2.out.now).then h1.now)); have H3a := Lib.hid ((H1.out.2.2.then H2.out.now).then h1.now); clear h1)
        | (go_at_call 21; have q := same_yes HIA.out HIB.out (by simp); (with_reducible refine q.mono ?_); rintro e w4 ⟨rfl, h1⟩; have H4 := Lib.hid h1; have HIM4 := Lib.hid (HIM.out.quiet h1); have HIL4 := Lib.hid (HIL.out.quiet h1); clear h1 q)
        | (go_at_call 21; have q := same_yes HIM4.out HIL4.out HHN.out; (with_reducible refine q.mono ?_); rintro e w5 ⟨rfl, h1⟩; have H5 := Lib.hid (H4.out.then h1); clear h1 q)
        | (go_at_call 9; refine (known_any _).mono ?_; rintro e w6 ⟨rfl, h1⟩; have H6 := Lib.hid (H5.out.then h1); clear h1))
      go_ret
      exact ⟨rfl, H3a.out.then H6.out⟩
end Go.Proofs
