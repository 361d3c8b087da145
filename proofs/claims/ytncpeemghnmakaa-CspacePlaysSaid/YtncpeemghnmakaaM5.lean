import Derived.Test.YtncpeemghnmakaaM4
section
namespace Go.Proofs
open Go.RowKit
set_option linter.unusedVariables false
set_option linter.unusedSimpArgs false

section
variable {w : World} {h : Nat} {S : List Nat} {c : Tr} {t : Fo}
theorem Taken.call (H : TreeAt w h S c) (hs : Sim c t) {a : Nat} {r : List Nat} (hf : t.free = a :: r) :
    ∃ c1, Taken c c1 a t r ∧ Calls Try.prog 100 #[ptr h] w fun e w' => e = .returned (.int .i64 (a : Nat)) ∧ Turns h S c1 w w' := by
  obtain ⟨c1, hk⟩ := hs.took hf
  refine ⟨c1, hk, ?_⟩
  have hc := hs.count
  have hn := hs.lenN
  rcases hk.took with ⟨F', h1, rfl⟩ | ⟨h1, h2, rfl⟩
  · exact take_some H h1 (by omega)
  · rw [h2]
    have := hs.big
    exact take_new H h1 (by have h3 := hk.len; simp at h3; omega)
def ndA (p : Int) : Nd := ⟨true, p, -1, 0, 0⟩
theorem Sim.hd2 (hs : Sim c t) {a : Nat} {r : List Nat} (hf : t.free = a :: r) {c1 : Tr} (hk : Taken c c1 a t r) {o : Option Nat} (ho : ∀ p, o = some p → t.there p = true) :
    (c1.upd a (fun _ => ndA (oI o))).hd (oI o) = hdI (t.row o) := by
  have hna : t.there a = false := ((hs.wf.frees.2 a).1 (by rw [hf]; simp)).2
  unfold Tr.hd
  cases o with
  | none =>
    rw [if_pos (show oI none = -1 from rfl), upd_root, hk.root]
    exact hs.root
  | some p =>
    rw [if_neg (show ¬ (oI (some p) = -1) by show ¬ (((p : Nat) : Int) = -1); omega)]
    show ((c1.upd a (fun _ => ndA (oI (some p)))).nd (p : Nat)).child = _
    have hpa : p ≠ a := fun e => by rw [← e, ho p rfl] at hna; cases hna
    rw [nd_upd hk.lt, if_neg hpa, hk.nd]
    exact (hs.node p (ho p rfl)).2.2.2
/-- A node that comes, written. -/
abbrev putA (w : World) (g o : Nat) (p : Int) : World := ((((w.setCell ⟨g, o, none⟩ (.bool true)).setCell ⟨g, o + 1, none⟩ (.int .i64 p)).setCell ⟨g, o + 2, none⟩ (.int .i64 (-1))).setCell ⟨g, o + 3, none⟩ (.int .i64 0)).setCell ⟨g, o + 4, none⟩ (.int .i64 0)
theorem adds_of {w1 : World} {c1 : Tr} {a : Nat} (hT : Turns h S c1 w w1) (ha : a < c1.N.length) (p : Int) :
    ∃ g cN, w1.cell? ⟨h, 2, none⟩ = some (.slice (some ⟨g, 0, none⟩) c1.N.length cN) ∧ h < w1.heap.size ∧ g < w1.heap.size ∧ (∀ j, w1.frozen? ⟨g, j, none⟩ = false) ∧ (∃ u0 u1 u2 u3 u4, w1.cell? ⟨g, a * 5, none⟩ = some u0 ∧ w1.cell? ⟨g, a * 5 + 1, none⟩ = some u1 ∧ w1.cell? ⟨g, a * 5 + 2, none⟩ = some u2 ∧ w1.cell? ⟨g, a * 5 + 3, none⟩ = some u3 ∧ w1.cell? ⟨g, a * 5 + 4, none⟩ = some u4) ∧
    (∃ S1, TreeAt (putA w1 g (a * 5) p) h S1 (c1.upd a (fun _ => ndA p)) ∧ (∀ k ∈ S1, k ∈ S ∨ w.heap.size ≤ k) ∧ Chg S w (putA w1 g (a * 5) p)) := by
  obtain ⟨S1, H1, k1, k2⟩ := hT
  have hd := nd_get ha
  obtain ⟨A, cN, B, cF, _, _, _, _, hh, hnd, _⟩ := H1.head
  obtain ⟨g, rfl, hne, hW⟩ := hnd a _ hd
  obtain ⟨_, _, c2, _, lt, _⟩ := hh w1 (Chg.refl _ _)
  obtain ⟨lg, fz, b0, b1, b2, b3, b4⟩ := hW w1 (Chg.refl _ _)
  obtain ⟨t1, t2⟩ := H1.node5 (ndA p) c2 ha
  refine ⟨g, cN, c2, lt, lg, fz, ⟨_, _, _, _, _, b0, b1, b2, b3, b4⟩, S1, ?_, k1, k2.trans t2 k1⟩
  rw [upd_some hd]
  exact t1
theorem add_in {c1 : Tr} {a : Nat} {p : Int} (hp : In c1 p) : In (c1.upd a (fun _ => ndA p)) p := hp.mono (upd_len ..)
/-- -1, if it is below 0. -/
def cut0 (p : Int) : Int := if p < -1 then -1 else p
def optI (p : Int) : Option Nat := if p < 0 then none else some p.toNat
theorem cut0_eq (p : Int) : cut0 p = oI (optI p) := by
  unfold cut0 optI
  by_cases h : p < 0
  · rw [if_pos h]
    show _ = (-1 : Int)
    split <;> omega
  · rw [if_neg h]
    show _ = ((p.toNat : Nat) : Int)
    split <;> omega
set_option maxHeartbeats 3200000 in
set_option maxRecDepth 100000 in
theorem add_root_ok (H : TreeAt w h S c) (hs : Sim c t) {p : Int} (hp : p < 0) {a : Nat} {r : List Nat} (hf : t.free = a :: r) :
    Calls Try.prog 93 #[ptr h, .int .i64 p] w fun e w' => e = .returned (.tuple #[.int .i64 (a : Nat), .int .i64 0]) ∧ ∃ c', Sim c' (t.addAt none a r) ∧ Turns h S c' w w' := by
  have hn := hs.lenN
  have hcnt := hs.count
  have HN := none_any H
  have e0 : decide (c.size = 0) = false := by have := hs.one; have := hs.size; simp; omega
  rw [e0] at HN
  have HL := Lib.hid (fun W (hc : Chg [] w W) => len_any (H.quiet hc) hcnt.2 hn)
  have HSZ := Lib.hid (fun W (hc : Chg [] w W) => size_any (H.quiet hc))
  have HTK := Lib.hid (fun W (hc : Chg [] w W) => Taken.call (H.quiet hc) hs hf)
  have hfull : t.len ≠ t.size := by
    have := hs.wf.len
    rw [hf] at this
    simp at this
    omega
  rw [hcnt.1] at HL
  rw [hs.size] at HSZ
  have hlb : ((t.len : Int) == (t.size : Int)) = false := by simp; omega
  have hm : (if p < -1 then (-1 : Int) else p) = -1 := by split <;> omega
  obtain ⟨h0, hh0⟩ : ∃ h0, h0 = hdI (t.row none) := ⟨_, rfl⟩
  have HFIN := Lib.hid (fun c1 (hk : Taken c c1 a t r) => hs.add hf hk (o := none) (fun _ h => by cases h))
  have HHD := Lib.hid (fun c1 (hk : Taken c c1 a t r) => hs.hd2 hf hk (o := none) (fun _ h => by cases h))
  have HIN := Lib.hid (fun c1 (hk : Taken c c1 a t r) => (In.hd (c := c1) (A := t.row none) (fun x hx => Nat.lt_of_lt_of_le (hs.lt hx) hk.le)))
  have HIP := Lib.hid (fun c1 (hk : Taken c c1 a t r) => show In c1 (-1) from (match hs.in_ (o := none) (fun _ h => by cases h) with | .inl h => .inl h | .inr ⟨k, h1, h2⟩ => .inr ⟨k, h1, Nat.lt_of_lt_of_le h2 hk.le⟩))
  have HBIG := Lib.hid hs.big
  rw [← hh0] at HFIN HHD HIN
  clear hfull H hs hf hh0
  go_enter Try.func93, Try.ntmps93
  go_wp2_with (first
    | (go_at_call 83; refine HN.mono ?_; rintro e w' ⟨rfl, rfl⟩)
    | (go_at_call 74; refine (HL.out _ (Chg.refl _ _)).mono ?_; rintro e w1 ⟨rfl, hc1⟩; have HC1 := Lib.hid hc1; clear hc1)
    | (go_at_call 75; refine (HSZ.out _ HC1.out).mono ?_; rintro e w' ⟨rfl, rfl⟩)
    | (go_at_call 100; obtain ⟨c1, hk, hcall⟩ := HTK.out _ HC1.out; refine hcall.mono ?_; rintro e w2 ⟨rfl, hT⟩; obtain ⟨g, cN, q1, q2, q3, q4, ⟨u0, u1, u2, u3, u4, b0, b1, b2, b3, b4⟩, S1, H2, k1, k2⟩ := adds_of (hT.earlier HC1.out) hk.lt (-1); have H2 := Lib.hid H2; have K1 := Lib.hid k1; have K2 := Lib.hid k2; have i0 : (0 : Int) ≤ (a : Int) := (by omega); have i1 : (a : Int) < (c1.N.length : Int) := (by have := hk.lt; omega); have HLEN := Lib.hid (show (c1.upd a (fun _ => ndA (-1))).N.length ≤ 4096 by rw [upd_len]; exact Nat.le_trans hk.len HBIG.out); have HI0 := Lib.hid ((HIP.out c1 hk).mono (c' := c1.upd a (fun _ => ndA (-1))) (upd_len ..)); have HIA := Lib.hid (show In (c1.upd a (fun _ => ndA (-1))) ((a : Nat) : Int) from .inr ⟨a, rfl, by rw [upd_len]; exact hk.lt⟩); have HIH := Lib.hid ((HIN.out c1 hk).mono (c' := c1.upd a (fun _ => ndA (-1))) (upd_len ..)); have HDD := Lib.hid (HHD.out c1 hk); have HFF := Lib.hid (HFIN.out c1 hk); clear hT hcall k1 k2 hk))
  refine (head_any H2.out HLEN.out (-1) HI0.out.ix).mono ?_
  rintro e w' ⟨rfl, b, o, rfl, hf, _⟩
  obtain ⟨lb, cb, fb⟩ := hf _ (Chg.refl _ _)
  rw [show (c1.upd a (fun _ => ndA (-1))).hd (-1) = h0 from HDD.out] at cb
  clear hf
  go_wp2_with (fail)
  refine (join_any H2.out HLEN.out HI0.out.ix HIA.out.ix HIH.out.ix).mono ?_
  rintro e w3 ⟨rfl, H3, hc3⟩
  have HH3 := Lib.hid H3
  have HC3 := Lib.hid hc3
  clear H3 hc3
  go_wp2_with (fail)
  refine (join_any HH3.out (by rw [join_len]; exact HLEN.out) (HI0.out.mono (join_len ..)).ix (.inl rfl) (HIA.out.mono (join_len ..)).ix).mono ?_
  rintro e w4 ⟨rfl, H4, hc4⟩
  have HH4 := Lib.hid H4
  have HC4 := Lib.hid hc4
  clear H4 hc4
  go_wp2
  go_ret2
  exact ⟨rfl, _, HFF.out, S1, HH4.out, K1.out, (K2.out.trans HC3.out K1.out).trans HC4.out K1.out⟩
set_option maxHeartbeats 3200000 in
set_option maxRecDepth 100000 in
theorem add_kid_ok (H : TreeAt w h S c) (hs : Sim c t) {q : Nat} (hq : t.there q = true) {a : Nat} {r : List Nat} (hf : t.free = a :: r) :
    Calls Try.prog 93 #[ptr h, .int .i64 (q : Nat)] w fun e w' => e = .returned (.tuple #[.int .i64 (a : Nat), .int .i64 0]) ∧ ∃ c', Sim c' (t.addAt (some q) a r) ∧ Turns h S c' w w' := by
  have hn := hs.lenN
  have hcnt := hs.count
  have HN := none_any H
  have e0 : decide (c.size = 0) = false := by have := hs.one; have := hs.size; simp; omega
  rw [e0] at HN
  have HL := Lib.hid (fun W (hc : Chg [] w W) => len_any (H.quiet hc) hcnt.2 hn)
  have HSZ := Lib.hid (fun W (hc : Chg [] w W) => size_any (H.quiet hc))
  have HTK := Lib.hid (fun W (hc : Chg [] w W) => Taken.call (H.quiet hc) hs hf)
  have hfull : t.len ≠ t.size := by
    have := hs.wf.len
    rw [hf] at this
    simp at this
    omega
  rw [hcnt.1] at HL
  rw [hs.size] at HSZ
  have hlb : ((t.len : Int) == (t.size : Int)) = false := by simp; omega
  have hm : (if ((q : Nat) : Int) < -1 then (-1 : Int) else (q : Nat)) = (q : Nat) := by split <;> omega
  have hqb : (((q : Nat) : Int) != -1) = true := by simp
  have HHS := Lib.hid (has_any H hn (q : Nat))
  rw [hs.has, t.has_nat, hq] at HHS
  obtain ⟨h0, hh0⟩ : ∃ h0, h0 = hdI (t.row (some q)) := ⟨_, rfl⟩
  have HFIN := Lib.hid (fun c1 (hk : Taken c c1 a t r) => hs.add hf hk (o := (some q)) (fun _ h => by cases h; exact hq))
  have HHD := Lib.hid (fun c1 (hk : Taken c c1 a t r) => hs.hd2 hf hk (o := (some q)) (fun _ h => by cases h; exact hq))
  have HIN := Lib.hid (fun c1 (hk : Taken c c1 a t r) => (In.hd (c := c1) (A := t.row (some q)) (fun x hx => Nat.lt_of_lt_of_le (hs.lt hx) hk.le)))
  have HIP := Lib.hid (fun c1 (hk : Taken c c1 a t r) => show In c1 ((q : Nat) : Int) from (match hs.in_ (o := (some q)) (fun _ h => by cases h; exact hq) with | .inl h => .inl h | .inr ⟨k, h1, h2⟩ => .inr ⟨k, h1, Nat.lt_of_lt_of_le h2 hk.le⟩))
  have HBIG := Lib.hid hs.big
  rw [← hh0] at HFIN HHD HIN
  clear hfull H hs hf hh0 hq
  go_enter Try.func93, Try.ntmps93
  go_wp2_with (first
    | (go_at_call 83; refine HN.mono ?_; rintro e w' ⟨rfl, rfl⟩)
    | (go_at_call 99; refine HHS.out.mono ?_; rintro e w0 ⟨rfl, hc0⟩; have HC0 := Lib.hid hc0; clear hc0)
    | (go_at_call 74; refine (HL.out _ HC0.out).mono ?_; rintro e w1 ⟨rfl, hc1⟩; have HC1 := Lib.hid (HC0.out.then hc1); clear hc1)
    | (go_at_call 75; refine (HSZ.out _ HC1.out).mono ?_; rintro e w' ⟨rfl, rfl⟩)
    | (go_at_call 100; obtain ⟨c1, hk, hcall⟩ := HTK.out _ HC1.out; refine hcall.mono ?_; rintro e w2 ⟨rfl, hT⟩; obtain ⟨g, cN, q1, q2, q3, q4, ⟨u0, u1, u2, u3, u4, b0, b1, b2, b3, b4⟩, S1, H2, k1, k2⟩ := adds_of (hT.earlier HC1.out) hk.lt ((q : Nat) : Int); have H2 := Lib.hid H2; have K1 := Lib.hid k1; have K2 := Lib.hid k2; have i0 : (0 : Int) ≤ (a : Int) := (by omega); have i1 : (a : Int) < (c1.N.length : Int) := (by have := hk.lt; omega); have HLEN := Lib.hid (show (c1.upd a (fun _ => ndA ((q : Nat) : Int))).N.length ≤ 4096 by rw [upd_len]; exact Nat.le_trans hk.len HBIG.out); have HI0 := Lib.hid ((HIP.out c1 hk).mono (c' := c1.upd a (fun _ => ndA ((q : Nat) : Int))) (upd_len ..)); have HIA := Lib.hid (show In (c1.upd a (fun _ => ndA ((q : Nat) : Int))) ((a : Nat) : Int) from .inr ⟨a, rfl, by rw [upd_len]; exact hk.lt⟩); have HIH := Lib.hid ((HIN.out c1 hk).mono (c' := c1.upd a (fun _ => ndA ((q : Nat) : Int))) (upd_len ..)); have HDD := Lib.hid (HHD.out c1 hk); have HFF := Lib.hid (HFIN.out c1 hk); clear hT hcall k1 k2 hk))
  refine (head_any H2.out HLEN.out ((q : Nat) : Int) HI0.out.ix).mono ?_
  rintro e w' ⟨rfl, b, o, rfl, hf, _⟩
  obtain ⟨lb, cb, fb⟩ := hf _ (Chg.refl _ _)
  rw [show (c1.upd a (fun _ => ndA ((q : Nat) : Int))).hd ((q : Nat) : Int) = h0 from HDD.out] at cb
  clear hf
  go_wp2_with (fail)
  refine (join_any H2.out HLEN.out HI0.out.ix HIA.out.ix HIH.out.ix).mono ?_
  rintro e w3 ⟨rfl, H3, hc3⟩
  have HH3 := Lib.hid H3
  have HC3 := Lib.hid hc3
  clear H3 hc3
  go_wp2_with (fail)
  refine (join_any HH3.out (by rw [join_len]; exact HLEN.out) (HI0.out.mono (join_len ..)).ix (.inl rfl) (HIA.out.mono (join_len ..)).ix).mono ?_
  rintro e w4 ⟨rfl, H4, hc4⟩
  have HH4 := Lib.hid H4
  have HC4 := Lib.hid hc4
  clear H4 hc4
  go_wp2
  go_ret2
  exact ⟨rfl, _, HFF.out, S1, HH4.out, K1.out, (K2.out.trans HC3.out K1.out).trans HC4.out K1.out⟩
set_option maxHeartbeats 1600000 in
theorem add_nobody (H : TreeAt w h S c) (hs : Sim c t) {p : Int} (h0 : 0 ≤ p) (hq : t.has p = false) :
    Calls Try.prog 93 #[ptr h, .int .i64 p] w fun e w' => e = .returned (.tuple #[.int .i64 0, .int .i64 4]) ∧ Chg [] w w' := by
  have hn := hs.lenN
  have HN := none_any H
  have e0 : decide (c.size = 0) = false := by have := hs.one; have := hs.size; simp; omega
  rw [e0] at HN
  obtain ⟨q, rfl⟩ := Int.eq_ofNat_of_zero_le h0
  have hm : (if ((q : Nat) : Int) < -1 then (-1 : Int) else (q : Nat)) = (q : Nat) := by split <;> omega
  have hqb : (((q : Nat) : Int) != -1) = true := by simp
  have HHS := Lib.hid (has_any H hn (q : Nat))
  rw [hs.has, hq] at HHS
  clear H hs hq h0
  go_enter Try.func93, Try.ntmps93
  go_wp2_with (first
    | (go_at_call 83; refine HN.mono ?_; rintro e w' ⟨rfl, rfl⟩)
    | (go_at_call 99; refine HHS.out.mono ?_; rintro e w0 ⟨rfl, hc0⟩; have HC0 := Lib.hid hc0; clear hc0))
  go_ret2
  exact ⟨rfl, HC0.out⟩
set_option maxHeartbeats 1600000 in
theorem add_full (H : TreeAt w h S c) (hs : Sim c t) {p : Int} (hp : p < 0 ∨ t.has p = true) (hf : t.free = []) :
    Calls Try.prog 93 #[ptr h, .int .i64 p] w fun e w' => e = .returned (.tuple #[.int .i64 0, .int .i64 3]) ∧ Chg [] w w' := by
  have hn := hs.lenN
  have hcnt := hs.count
  have HN := none_any H
  have e0 : decide (c.size = 0) = false := by have := hs.one; have := hs.size; simp; omega
  rw [e0] at HN
  have HL := Lib.hid (fun W (hc : Chg [] w W) => len_any (H.quiet hc) hcnt.2 hn)
  have HSZ := Lib.hid (fun W (hc : Chg [] w W) => size_any (H.quiet hc))
  rw [hcnt.1] at HL
  rw [hs.size] at HSZ
  have hfu := hs.full.1 hf
  have hlb : ((t.len : Int) == (t.size : Int)) = true := by simp; omega
  have HHS := Lib.hid (has_any H hn p)
  rw [hs.has] at HHS
  rcases hp with hp | hp
  · have hm : (if p < -1 then (-1 : Int) else p) = -1 := by split <;> omega
    clear H hs hf hfu HHS
    go_enter Try.func93, Try.ntmps93
    go_wp2_with (first
      | (go_at_call 83; refine HN.mono ?_; rintro e w' ⟨rfl, rfl⟩)
      | (go_at_call 74; refine (HL.out _ (Chg.refl _ _)).mono ?_; rintro e w1 ⟨rfl, hc1⟩; have HC1 := Lib.hid hc1; clear hc1)
      | (go_at_call 75; refine (HSZ.out _ HC1.out).mono ?_; rintro e w' ⟨rfl, rfl⟩))
    go_ret2
    exact ⟨rfl, HC1.out⟩
  · rw [hp] at HHS
    obtain ⟨q, rfl⟩ : ∃ q : Nat, p = (q : Nat) := Int.eq_ofNat_of_zero_le (by unfold Fo.has at hp; simp at hp; omega)
    have hm : (if ((q : Nat) : Int) < -1 then (-1 : Int) else (q : Nat)) = (q : Nat) := by split <;> omega
    have hqb : (((q : Nat) : Int) != -1) = true := by simp
    clear H hs hf hfu hp
    go_enter Try.func93, Try.ntmps93
    go_wp2_with (first
      | (go_at_call 83; refine HN.mono ?_; rintro e w' ⟨rfl, rfl⟩)
      | (go_at_call 99; refine HHS.out.mono ?_; rintro e w0 ⟨rfl, hc0⟩; have HC0 := Lib.hid hc0; clear hc0)
      | (go_at_call 74; refine (HL.out _ HC0.out).mono ?_; rintro e w1 ⟨rfl, hc1⟩; have HC1 := Lib.hid (HC0.out.then hc1); clear hc1)
      | (go_at_call 75; refine (HSZ.out _ HC1.out).mono ?_; rintro e w' ⟨rfl, rfl⟩))
    go_ret2
    exact ⟨rfl, HC1.out⟩
/-- What Add answers, and leaves. -/
def Fo.addE (t : Fo) (p : Int) : Int := if 0 ≤ p ∧ t.has p = false then 4 else if t.free = [] then 3 else 0
def Fo.addN (t : Fo) (p : Int) : Int := if t.addE p = 0 then ((t.free.headD 0 : Nat) : Int) else 0
def Fo.add (t : Fo) (p : Int) : Fo := if t.addE p = 0 then t.addAt (optI p) (t.free.headD 0) t.free.tail else t
theorem Turns.ret (H : TreeAt w h S c) (hs : Sim c t) {w' : World} (hc : Chg [] w w') : ∃ c', Sim c' t ∧ Turns h S c' w w' := ⟨c, hs, Turns.refl H hc⟩
theorem cadd_any (H : TreeAt w h S c) (hs : Sim c t) (p : Int) :
    Calls Try.prog 93 #[ptr h, .int .i64 p] w fun e w' => e = .returned (.tuple #[.int .i64 (t.addN p), .int .i64 (t.addE p)]) ∧ ∃ c', Sim c' (t.add p) ∧ Turns h S c' w w' := by
  unfold Fo.addN Fo.add Fo.addE
  by_cases h1 : 0 ≤ p ∧ t.has p = false
  · rw [if_pos h1, if_neg (by omega), if_neg (by omega)]
    exact (add_nobody H hs h1.1 h1.2).mono fun e w' hh => ⟨hh.1, Turns.ret H hs hh.2⟩
  · rw [if_neg h1]
    have hp : p < 0 ∨ t.has p = true := by
      by_cases h0 : p < 0
      · exact .inl h0
      · right
        cases hh : t.has p with
        | true => rfl
        | false => exact absurd ⟨by omega, hh⟩ h1
    cases hf : t.free with
    | nil =>
      rw [if_pos rfl, if_neg (by omega), if_neg (by omega)]
      exact (add_full H hs hp hf).mono fun e w' hh => ⟨hh.1, Turns.ret H hs hh.2⟩
    | cons a r =>
      simp only [reduceCtorEq, if_false, if_true, List.headD_cons, List.tail_cons]
      rcases hp with hp | hp
      · have : optI p = none := by unfold optI; rw [if_pos hp]
        rw [this]
        exact add_root_ok H hs hp hf
      · obtain ⟨q, rfl⟩ : ∃ q : Nat, p = (q : Nat) := Int.eq_ofNat_of_zero_le (by unfold Fo.has at hp; simp at hp; omega)
        have : optI (q : Nat) = some q := by unfold optI; rw [if_neg (by omega), Int.toNat_natCast]
        rw [this]
        rw [t.has_nat] at hp
        exact add_kid_ok H hs hp hf
end
end Go.Proofs
end
section
namespace Go.Proofs
open Go.RowKit
set_option linter.unusedVariables false
set_option linter.unusedSimpArgs false

section
variable {w : World} {h : Nat} {S : List Nat} {c : Tr} {t : Fo}
theorem nodup_len {l : List Nat} {n : Nat} (h : l.Nodup) (hl : ∀ x ∈ l, x < n) : l.length ≤ n := by
  have := List.Nodup.length_le_of_subset h (l₂ := List.range n) (fun x hx => by simpa using hl x hx)
  simpa using this
theorem Fo.WF.row_len {t : Fo} (h : t.WF) (o : Option Nat) : (t.row o).length ≤ t.size := nodup_len (h.nodup o) (fun x hx => h.lt x (h.par o x hx).1)
theorem Fo.WF.pre_len {t : Fo} (h : t.WF) {n : Nat} {l : List Nat} (hl : Pre t (t.kids n) l) : l.length ≤ t.size := nodup_len (hl.desc_nodup h) (fun x hx => h.lt x ((hl.desc x).1 hx |>.there h).2)
/-- A node's children; of no node none. -/
def Fo.kidsI (t : Fo) (i : Int) : List Nat := if 0 ≤ i then t.kids i.toNat else []
theorem Fo.kidsI_no {t : Fo} (h : t.WF) {i : Int} (hi : t.has i = false) : t.kidsI i = [] := by
  unfold Fo.kidsI
  split
  · rename_i h0
    exact (h.off _ (by unfold Fo.has at hi; simpa [h0] using hi)).1
  · rfl
/-- A slice in new memory that reads as l. -/
def News (w w' : World) (e : Ending) (l : List Nat) : Prop := ∃ A cc, e = .returned (.slice A l.length cc) ∧ Fresh w w' (.slice A l.length cc) (iN l)
theorem News.nil {w w' : World} (h : Chg [] w w') : News w w' (.returned (.slice none 0 0)) [] := ⟨none, 0, rfl, Fresh.nil h⟩
theorem crow_any (H : TreeAt w h S c) (hs : Sim c t) {o : Option Nat} (ho : ∀ p, o = some p → t.there p = true) :
    Calls Try.prog 96 #[ptr h, .int .i64 (oI o)] w fun e w' => News w w' e (t.row o) :=
  row_any H hs.lenN (hs.in_ ho).ix (hs.seq ho) (Nat.le_trans (hs.wf.row_len o) hs.big)
/-- What is below a node: its preorder; of no node nothing. -/
def Below' (t : Fo) (i : Int) (l : List Nat) : Prop := if t.has i then Pre t (t.kids i.toNat) l else l = []
theorem Below'.exists {t : Fo} (h : t.WF) (i : Int) : ∃ l, Below' t i l := by
  unfold Below'
  split
  · exact Pre.exists h _
  · exact ⟨[], rfl⟩
theorem Below'.det {t : Fo} {i : Int} {a b : List Nat} (h1 : Below' t i a) (h2 : Below' t i b) : a = b := by
  unfold Below' at h1 h2
  split at h1
  · rename_i hh; rw [if_pos hh] at h2; exact h1.det h2
  · rename_i hh; rw [if_neg hh] at h2; rw [h1, h2]
theorem cbelow_any (H : TreeAt w h S c) (hs : Sim c t) {n : Nat} (hn : t.there n = true) {l : List Nat} (hl : Pre t (t.kids n) l) :
    Calls Try.prog 88 #[ptr h, .int .i64 (n : Nat)] w fun e w' => News w w' e l := by
  obtain ⟨n1, n2, n3, n4⟩ := hs.node n hn
  have := hs.tv hl
  rw [← n4] at this
  exact below_any H hs.lenN (nd_get n1) this (Nat.le_trans (hs.wf.pre_len hl) hs.big)
/-- Under, by the plain forest. -/
theorem cunder_any (H : TreeAt w h S c) (hs : Sim c t) (i j : Int) {b : Bool} (hb : b = true ↔ t.under i j) : Calls Try.prog 64 #[ptr h, .int .i64 i, .int .i64 j] w fun e w' => e = .returned (.bool b) ∧ Chg [] w w' := by
  obtain ⟨L, h1, h2⟩ := hs.pa i
  have := under_any H hs.lenN h1 j
  have e : decide (j ∈ iN L) = b := by
    cases b with
    | true => exact decide_eq_true ((h2 j).2 (hb.1 rfl))
    | false => exact decide_eq_false (fun h => by have := hb.2 ((h2 j).1 h); cases this)
  rw [e] at this
  exact this
/-- The error, where there is no such node. -/
def Fo.noE (t : Fo) (i : Int) : Int := if t.has i then 0 else 4
theorem cfind_any (H : TreeAt w h S c) (hs : Sim c t) (i : Int) : Calls Try.prog 87 #[ptr h, .int .i64 i] w fun e w' => e = .returned (.int .i64 (t.noE i)) ∧ Chg [] w w' := by
  have := find_any H hs.lenN i
  unfold findE at this
  rw [if_neg (by have := hs.one; have := hs.size; omega), hs.has] at this
  exact this
theorem TreeAt.apart (H : TreeAt w h S c) {g cl : Nat} (hv : w.cell? ⟨h, 2, none⟩ = some (.slice (some ⟨g, 0, none⟩) c.N.length cl)) {v : Value} {l : List Int} (hr : Rd w v l) : g ∉ foot v := by
  obtain ⟨VN, VF, hB, hN, hF, rfl⟩ := H
  have e0 : VN = .slice (some ⟨g, 0, none⟩) c.N.length cl := by
    have := hB.cell 2
    simp only [List.getElem?_toArray, List.getElem?_cons_zero, List.getElem?_cons_succ] at this
    rw [this] at hv
    exact Option.some.inj hv
  subst e0
  rcases hN.2 with ⟨h0, _⟩ | ⟨g', cap', cur, hv', hg, _⟩
  · cases h0
  · injection hv' with hv' _ _
    injection hv' with hv'
    injection hv' with hv' _ _
    subst hv'
    exact hr.ty hg (by decide)
/-- What there is of a node, for a walk that writes. -/
theorem TreeAt.open2 (H : TreeAt w h S c) {k : Nat} (hk : k < c.N.length) :
    ∃ g cN, w.cell? ⟨h, 2, none⟩ = some (.slice (some ⟨g, 0, none⟩) c.N.length cN) ∧ h < w.heap.size ∧ g < w.heap.size ∧ (0 : Int) ≤ (k : Int) ∧ (k : Int) < (c.N.length : Int) ∧ (∀ j, w.frozen? ⟨g, j, none⟩ = false) ∧
      w.cell? ⟨g, k * 5, none⟩ = some (.bool (c.nd (k : Nat)).there) ∧ w.cell? ⟨g, k * 5 + 1, none⟩ = some (.int .i64 (c.nd (k : Nat)).par) ∧ w.cell? ⟨g, k * 5 + 2, none⟩ = some (.int .i64 (c.nd (k : Nat)).child) ∧ w.cell? ⟨g, k * 5 + 3, none⟩ = some (.int .i64 (c.nd (k : Nat)).left) ∧ w.cell? ⟨g, k * 5 + 4, none⟩ = some (.int .i64 (c.nd (k : Nat)).right) ∧
      (∀ (j : Nat) (d' : Nd) (u : Value), j < 5 → d'.cells = (c.nd (k : Nat)).cells.set j u → TreeAt (w.setCell ⟨g, k * 5 + j, none⟩ u) h S (c.upd k fun _ => d') ∧ Chg S w (w.setCell ⟨g, k * 5 + j, none⟩ u)) := by
  have hd := nd_get hk
  obtain ⟨A, cN, B, cF, _, _, _, _, hh, hnd, _⟩ := H.head
  obtain ⟨g, rfl, hne, hW⟩ := hnd k _ hd
  obtain ⟨_, _, c2, _, lt, _⟩ := hh w (Chg.refl _ _)
  obtain ⟨lg, fz, b0, b1, b2, b3, b4⟩ := hW w (Chg.refl _ _)
  refine ⟨g, cN, c2, lt, lg, by omega, by omega, fz, b0, b1, b2, b3, b4, fun j d' u hj hu => ?_⟩
  rw [upd_some hd]
  exact H.node c2 hd hj hu
theorem upd_same_nd {c : Tr} {k : Nat} {f g : Nd → Nd} (h : f (c.nd (k : Nat)) = g (c.nd (k : Nat))) : c.upd k f = c.upd k g := by
  unfold Tr.upd
  cases hd : c.N[k]? with
  | none => rfl
  | some d =>
    have := nd_at hd
    rw [this] at h
    show ({ c with N := c.N.set k (f d) } : Tr) = { c with N := c.N.set k (g d) }
    rw [h]
set_option maxHeartbeats 1600000 in
set_option maxRecDepth 100000 in
theorem prune_ok (H : TreeAt w h S c) (hs : Sim c t) {n : Nat} (hn : t.there n = true) {l : List Nat} (hl : Pre t (t.kids n) l) :
    Calls Try.prog 61 #[ptr h, .int .i64 (n : Nat)] w fun e w' => ∃ A cc, e = .returned (.tuple #[.slice A l.length cc, .int .i64 0]) ∧ Rd w' (.slice A l.length cc) (iN l) ∧ (∀ k ∈ foot (.slice A l.length cc), w.heap.size ≤ k) ∧ ∃ c' S', Sim c' (t.prune n l) ∧ TreeAt w' h S' c' ∧ (∀ k ∈ S', k ∈ S ∨ w.heap.size ≤ k) ∧ Chg S w w' ∧ ∀ k ∈ foot (.slice A l.length cc), k ∉ S' := by
  have HF := cfind_any H hs (n : Nat)
  unfold Fo.noE at HF
  rw [t.has_nat, if_pos hn] at HF
  have HB := Lib.hid (fun W (hc : Chg [] w W) => cbelow_any (H.quiet hc) hs hn hl)
  have hcnt := hs.count
  have hlt : ∀ x ∈ l, x < c.N.length := fun x hx => (hs.node x ((hl.desc x).1 hx |>.there hs.wf).2).1
  have hl2 : l.length ≤ 4096 := Nat.le_trans (hs.wf.pre_len hl) hs.big
  have hlN := hs.lenN
  have hSlt := H.lt
  obtain ⟨c2, hc2⟩ : ∃ c2, c2 = ({ c with N := clr c.N l, F := c.F ++ l } : Tr) := ⟨_, rfl⟩
  have HFR := Lib.hid (fun W (hc : Chg [] w W) (v : Value) (hv : Rd W v (iN l)) (hf : ∀ k ∈ foot v, w.heap.size ≤ k) => free_any (H.quiet hc) hv (fun k hk hkS => by have := hf k hk; have := hSlt k hkS; omega) hlt hlN hl2 (by omega))
  rw [← hc2] at HFR
  have HNN := Lib.hid (show n < c2.N.length by rw [hc2]; show n < (clr c.N l).length; rw [clr_len]; exact (hs.node n hn).1)
  have HSIM := Lib.hid (show Sim (c2.upd n fun d => { d with child := -1 }) (t.prune n l) by have := hs.prune hn hl; unfold Tr.prune at this; rw [← hc2] at this; exact this)
  have HSL := Lib.hid hSlt
  clear H hs hn hcnt hlt hl hSlt hc2
  go_enter Try.func61, Try.ntmps61
  go_wp2_with (first
    | (go_at_call 87; refine HF.mono ?_; rintro e w0 ⟨rfl, hc0⟩; have HC0 := Lib.hid hc0; clear hc0)
    | (go_at_call 88; refine (HB.out _ HC0.out).mono ?_; rintro e w1 ⟨A, cc, rfl, hf⟩; have HW := Lib.hid (hf.before HC0.out); clear hf)
    | (go_at_call 89; refine (HFR.out _ HW.out.2.2 _ HW.out.rd HW.out.2.1).mono ?_; rintro e w2 ⟨rfl, hT⟩; obtain ⟨S2, H2, k1', k2'⟩ := hT; have hrd := HW.out.rd.chg k2' (fun k hk hkS => by have := HW.out.2.1 k hk; have := HSL.out k hkS; omega); obtain ⟨g, cN, q2, lt, lg, i0, i1, fz, b0, b1, b2, b3, b4, hst⟩ := H2.open2 HNN.out; have hap := H2.apart q2 hrd; obtain ⟨t1, t2⟩ := hst 2 { c2.nd (n : Nat) with child := -1 } (.int .i64 (-1)) (by omega) rfl; have K1 := Lib.hid (show ∀ k ∈ S2, k ∈ S ∨ w.heap.size ≤ k from fun k hk => (k1' k hk).imp id (fun h => Nat.le_trans HW.out.2.2.size h)); have K2 := Lib.hid (show Chg S w w2 from HW.out.2.2.any.trans k2' (fun k hk => .inl hk)); have HAPT := Lib.hid (show ∀ k ∈ foot (.slice A l.length cc), k ∉ S2 from fun k hk hkS => by have h1 := HW.out.2.1 k hk; have h2 := HW.out.1.lt k hk; rcases k1' k hkS with h3 | h3; (have := HSL.out k h3; omega); omega); have HRD := Lib.hid hrd; have HAP := Lib.hid hap; have HT1 := Lib.hid t1; have HT2 := Lib.hid t2; clear hst t1 t2 hrd hap k1' k2' H2))
  go_ret2
  refine ⟨A, cc, rfl, HRD.out.same (fun k hk => Below.heap_setCell _ _ _ _ (fun e => HAP.out (by have : k = g := e; rw [← this]; exact hk))), HW.out.2.1, _, S2, HSIM.out, ?_, K1.out, K2.out.trans HT2.out K1.out, HAPT.out⟩
  have := upd_same_nd (c := c2) (k := n) (f := fun d => { d with child := -1 }) (g := fun _ => { c2.nd (n : Nat) with child := -1 }) rfl
  rw [this]
  exact HT1.out
theorem prune_no (H : TreeAt w h S c) (hs : Sim c t) {i : Int} (hi : t.has i = false) :
    Calls Try.prog 61 #[ptr h, .int .i64 i] w fun e w' => e = .returned (.tuple #[.slice none 0 0, .int .i64 4]) ∧ Chg [] w w' := by
  have HF := cfind_any H hs i
  unfold Fo.noE at HF
  rw [if_neg (by rw [hi]; simp)] at HF
  clear H hs hi
  go_enter Try.func61, Try.ntmps61
  go_wp2_with (go_at_call 87; refine HF.mono ?_; rintro e w0 ⟨rfl, hc0⟩; have HC0 := Lib.hid hc0; clear hc0)
  go_ret2
  exact ⟨rfl, HC0.out⟩
end
end Go.Proofs
end
section
namespace Go.Proofs
open Go.RowKit
set_option linter.unusedVariables false
set_option linter.unusedSimpArgs false

section
variable {w : World} {h : Nat} {S : List Nat} {c : Tr} {t : Fo}
theorem moved_in {c : Tr} {p pv : Int} {l : List Nat} {i : Int} (h : In c i) : In (c.moved p pv l) i := h.mono (moved_len ..)
theorem Rd.one (w : World) (x : Int) : Rd (w.alloc (.cells #[.int .i64 x] 3)) (.slice (some ⟨w.heap.size, 0, none⟩) 1 1) [x] :=
  ⟨_, 1, rfl, by simp, by unfold maxLen; omega, fun h => (by cases h), fun a ha => by
    cases ha
    refine ⟨_, 0, _, rfl, Blk.new w 3 _, by simp, fun j z hj => ?_⟩
    match j, hj with
    | 0, hj => simp at hj; simp [hj]⟩
theorem lastOr_take {l : List Nat} {k n : Nat} {x : Int} (h : l[k]? = some n) : lastOr (l.take (k + 1)) x = (n : Nat) := by
  rw [List.take_add_one, h]
  show lastOr (l.take k ++ [n]) x = _
  rw [lastOr_append]; rfl
/-- What there is of a node, for a walk that writes behind a draw. -/
theorem TreeAt.open3 (H : TreeAt w h S c) {k : Nat} (hk : k < c.N.length) :
    ∃ g cN, g ∈ S ∧ w.cell? ⟨h, 2, none⟩ = some (.slice (some ⟨g, 0, none⟩) c.N.length cN) ∧ h < w.heap.size ∧ g < w.heap.size ∧ (0 : Int) ≤ (k : Int) ∧ (k : Int) < (c.N.length : Int) ∧ (∀ j, w.frozen? ⟨g, j, none⟩ = false) ∧
      (∀ j, j < 5 → ∃ u, w.cell? ⟨g, k * 5 + j, none⟩ = some u) ∧
      (∀ (W : World), Chg [] w W → ∀ (j : Nat) (d' : Nd) (u : Value), j < 5 → d'.cells = (c.nd (k : Nat)).cells.set j u → TreeAt (W.setCell ⟨g, k * 5 + j, none⟩ u) h S (c.upd k fun _ => d') ∧ Chg S w (W.setCell ⟨g, k * 5 + j, none⟩ u)) := by
  have hd := nd_get hk
  have hgS : ∀ g cN, w.cell? ⟨h, 2, none⟩ = some (.slice (some ⟨g, 0, none⟩) c.N.length cN) → g ∈ S := by
    intro g cN hv
    obtain ⟨VN, VF, hB, hN, hF, rfl⟩ := H
    have := hB.cell 2
    simp only [List.getElem?_toArray, List.getElem?_cons_zero, List.getElem?_cons_succ] at this
    rw [this] at hv
    injection hv with hv
    subst hv
    simp [foot_some]
  obtain ⟨A, cN, B, cF, _, _, _, _, hh, hnd, _⟩ := H.head
  obtain ⟨g, rfl, hne, hW⟩ := hnd k _ hd
  obtain ⟨_, _, c2, _, lt, _⟩ := hh w (Chg.refl _ _)
  obtain ⟨lg, fz, b0, b1, b2, b3, b4⟩ := hW w (Chg.refl _ _)
  refine ⟨g, cN, hgS g cN c2, c2, lt, lg, by omega, by omega, fz, fun j hj => ?_, fun W hc j d' u hj hu => ?_⟩
  · match j, hj with
    | 0, _ => exact ⟨_, b0⟩
    | 1, _ => exact ⟨_, b1⟩
    | 2, _ => exact ⟨_, b2⟩
    | 3, _ => exact ⟨_, b3⟩
    | 4, _ => exact ⟨_, b4⟩
  · rw [upd_some hd]
    have := (H.quiet hc).node (hh W hc).2.2.1 hd hj hu
    exact ⟨this.1, (Chg.any hc).trans this.2 (fun k hk => .inl hk)⟩
set_option maxHeartbeats 3200000 in
set_option maxRecDepth 100000 in
theorem drop_ok (H : TreeAt w h S c) (hs : Sim c t) {n : Nat} (hn : t.there n = true) :
    Calls Try.prog 72 #[ptr h, .int .i64 (n : Nat)] w fun e w' => e = .returned (.int .i64 0) ∧ ∃ c', Sim c' (t.drop n) ∧ Turns h S c' w w' := by
  have HF := cfind_any H hs (n : Nat)
  unfold Fo.noE at HF
  rw [t.has_nat, if_pos hn] at HF
  obtain ⟨n1, n2, n3, n4⟩ := hs.node n hn
  have HO := Lib.hid (fun W (hc : Chg [] w W) => (H.quiet hc).open2 n1)
  have HR := Lib.hid (fun W (hc : Chg [] w W) => crow_any (H.quiet hc) hs (o := some n) (fun _ h => by cases h; exact hn))
  obtain ⟨ks, hks⟩ : ∃ ks, ks = t.kids n := ⟨_, rfl⟩
  rw [show t.row (some n) = ks from hks.symm] at HR
  have hlk : ∀ x ∈ ks, x < c.N.length := fun x hx => (hs.node x (hs.wf.kid (by rw [← hks]; exact hx)).1).1
  have hkl : ks.length ≤ 4096 := by rw [hks]; exact Nat.le_trans (hs.wf.row_len (some n)) hs.big
  have hip : In c (c.nd (n : Nat)).par := by rw [n3]; exact hs.in_ (fun p hp => hs.wf.up hn hp)
  -- beside whom it stands
  have hmem := hs.wf.mem n hn
  obtain ⟨pre, post, hRw⟩ := List.append_of_mem hmem
  have hlk2 := hs.links (t.par n)
  rw [hRw, Lk.append] at hlk2
  obtain ⟨_, k2, k3, _⟩ := hlk2
  have hil : In c (c.nd (n : Nat)).left := by rw [k2]; exact In.last (fun x hx => hs.lt (o := t.par n) (by rw [hRw]; simp [hx]))
  have hir : In c (c.nd (n : Nat)).right := by rw [k3]; exact In.hd (fun x hx => hs.lt (o := t.par n) (by rw [hRw]; simp [hx]))
  have HSIM := Lib.hid (show Sim (c.drop n ks) (t.drop n) by rw [hks]; exact hs.drop hn)
  have hcnt := hs.count
  have hlN := hs.lenN
  have hSlt := Lib.hid H.lt
  have hFl : c.F.length ≤ 4096 := by omega
  have HH := Lib.hid H
  obtain ⟨gp, hgp⟩ : ∃ gp, gp = (c.nd (n : Nat)).par := ⟨_, rfl⟩
  obtain ⟨gl, hgl⟩ : ∃ gl, gl = (c.nd (n : Nat)).left := ⟨_, rfl⟩
  obtain ⟨gr, hgr⟩ : ∃ gr, gr = (c.nd (n : Nat)).right := ⟨_, rfl⟩
  obtain ⟨gt, hgt⟩ : ∃ gt, gt = (c.nd (n : Nat)).there := ⟨_, rfl⟩
  obtain ⟨gc, hgc⟩ : ∃ gc, gc = (c.nd (n : Nat)).child := ⟨_, rfl⟩
  have HDR := Lib.hid (show c.drop n ks = (let c5 := (c.moved gp gl ks).join gp (lastOr ks gl) gr; { c5 with N := clr c5.N [n], F := c5.F ++ [n] }) by unfold Tr.drop; rw [hgp, hgl, hgr])
  rw [← hgp] at hip HO
  rw [← hgl] at hil HO
  rw [← hgr] at hir HO
  rw [← hgt, ← hgc] at HO
  have HLK := Lib.hid hlk
  have HIP := Lib.hid hip
  have HIL := Lib.hid hil
  have HIR := Lib.hid hir
  have HN1 := Lib.hid n1
  clear H hs hn n1 n2 n3 n4 hks hlk hip hmem hRw k2 k3 hil hir hcnt hgp hgl hgr hgt hgc
  go_enter Try.func72, Try.ntmps72
  go_wp2_with (first
    | (go_at_call 87; refine HF.mono ?_; rintro e w0 ⟨rfl, hc0⟩; obtain ⟨g, cN, q2, lt, lg, i0, i1, fz, b0, b1, b2, b3, b4, _⟩ := HO.out w0 hc0; have HC0 := Lib.hid hc0; clear hc0)
    | (go_at_call 96; (refine (HR.out _ (HC0.out.alloc _)).mono ?_; rintro e w1 ⟨A, cc, rfl, hf⟩; have hbx := (Blk.new w0 124 #[.bool gt, .int .i64 gp, .int .i64 gc, .int .i64 gl, .int .i64 gr]).chg hf.2.2 (by simp); have HBX := Lib.hid hbx; have HW := Lib.hid (hf.before (HC0.out.alloc _)); have LB := Lib.hid (show w.heap.size ≤ w0.heap.size from HC0.out.size); clear hf hbx)))
  clear b0 b1 b2 b3 b4 q2 lg fz lt
  have HW0 := Lib.hid HW.out
  go_loopg [7, 29] ks.length (fun gh lv iv wr => ∃ (k : Nat) (lst : Int), k + gh = ks.length ∧ lv = .int .i64 lst ∧ iv = .int .i64 k ∧ Hid (lst = lastOr (ks.take k) gl ∧ TreeAt wr h S (c.moved gp gl (ks.take k)) ∧ Blk wr w0.heap.size 124 #[.bool gt, .int .i64 gp, .int .i64 gc, .int .i64 gl, .int .i64 gr] ∧ Rd wr (.slice A ks.length cc) (iN ks) ∧ Chg S w wr))
  case atStart => exact ⟨0, gl, by omega, rfl, rfl, Lib.hid ⟨rfl, HH.out.quiet HW.out.2.2, HBX.out, HW.out.rd, HW.out.2.2.any⟩⟩
  case round =>
    obtain ⟨k, lst, hk, rfl, rfl, HI⟩ := hrel
    obtain ⟨hlst, H1, hbx, hrd, hc⟩ := HI.out
    have hft : ∀ j ∈ foot (.slice A ks.length cc), j ∉ S := fun j hj hjS => by have := HW0.out.2.1 j hj; have := hSlt.out j hjS; omega
    have hbS : w0.heap.size ∉ S := fun hh => by have := hSlt.out _ hh; have := LB.out; omega
    have HFT := Lib.hid hft
    have HBS := Lib.hid hbS
    have HLST := Lib.hid hlst
    have hln : (c.moved gp gl (ks.take k)).N.length = c.N.length := moved_len ..
    by_cases hlt : k < ks.length
    · obtain ⟨x, hx⟩ : ∃ x, ks[k]? = some x := ⟨_, List.getElem?_eq_getElem hlt⟩
      have hxl := HLK.out x (List.mem_of_getElem? hx)
      obtain ⟨A2, cc2, hv2, _, _, _, hcell⟩ := hrd.open_
      rw [iN_len] at hv2
      injection hv2 with hA _ hcc
      subst hA hcc
      obtain ⟨b2, o2, rfl, hb2, hcb⟩ := hcell k _ (iN_at hx)
      obtain ⟨g3, cN3, hgS, q2, lt, lg, j0, j1, fz, hce, hst⟩ := H1.open3 (k := x) (by rw [hln]; exact hxl)
      obtain ⟨u1, hu1⟩ := hce 1 (by omega)
      obtain ⟨t1, t2⟩ := hst wr (Chg.refl _ _) 1 { (c.moved gp gl (ks.take k)).nd (x : Nat) with par := gp } (.int .i64 gp) (by omega) rfl
      have hup := upd_same_nd (c := c.moved gp gl (ks.take k)) (k := x) (f := fun d => { d with par := gp }) (g := fun _ => { (c.moved gp gl (ks.take k)).nd (x : Nat) with par := gp }) rfl
      rw [← hup] at t1
      replace t1 := t1.quiet ((Chg.refl [] _).drew)
      replace t2 := t2.drew
      have hgb : g3 ≠ w0.heap.size := fun e => hbS (e ▸ hgS)
      have hbx2 : Blk (wr.setCell ⟨g3, x * 5 + 1, none⟩ (.int .i64 gp)).drew w0.heap.size 124 #[.bool gt, .int .i64 gp, .int .i64 gc, .int .i64 gl, .int .i64 gr] := (hbx.far (Ne.symm hgb) _).drew
      have x1 := hbx.cell 1
      have lbx := hbx.lt
      have hcW := hc.trans t2 (fun k hk => .inl hk)
      have hrd2 : Rd (wr.setCell ⟨g3, x * 5 + 1, none⟩ (.int .i64 gp)).drew (.slice (some ⟨b2, o2, none⟩) ks.length cc) (iN ks) := hrd.chg t2 hft
      have hl3 : ((c.moved gp gl (ks.take k)).upd x fun d => { d with par := gp }).N.length = c.N.length := by rw [upd_len]; exact hln
      have hxi : In ((c.moved gp gl (ks.take k)).upd x fun d => { d with par := gp }) ((x : Nat) : Int) := .inr ⟨x, rfl, by rw [hl3]; exact hxl⟩
      have hli : In ((c.moved gp gl (ks.take k)).upd x fun d => { d with par := gp }) lst := by
        rw [hlst]
        rcases lastOr_mem (A := ks.take k) (x := gl) with ⟨_, hh⟩ | ⟨m, hm, hh⟩
        · rw [hh]; exact HIL.out.mono hl3
        · rw [hh]; exact .inr ⟨m, rfl, by rw [hl3]; exact HLK.out m (List.mem_of_mem_take hm)⟩
      have HJ := Lib.hid (join_any t1 (by rw [hl3]; exact hlN) (HIP.out.mono hl3).ix hli.ix hxi.ix)
      have hstep : (((c.moved gp gl (ks.take k)).upd x fun d => { d with par := gp }).join gp lst (x : Nat)) = c.moved gp gl (ks.take (k + 1)) := by
        rw [List.take_add_one, hx]
        show _ = c.moved gp gl (ks.take k ++ [x])
        rw [moved_snoc, hlst]
      rw [hstep] at HJ
      have hlast : ((x : Nat) : Int) = lastOr (ks.take (k + 1)) gl := (lastOr_take hx).symm
      have HLAST := Lib.hid hlast
      have y1 := hbx2.cell 1
      have lby := hbx2.lt
      have HBX2 := Lib.hid hbx2
      have HRD2 := Lib.hid hrd2
      have HCW := Lib.hid hcW
      have k0 : (0 : Int) ≤ (k : Int) := by omega
      have k1 : (k : Int) < (ks.length : Int) := by omega
      simp only [List.getElem?_toArray, List.getElem?_cons_zero, List.getElem?_cons_succ] at x1 y1
      rw [hln] at q2 j1
      clear HI H1 hbx hrd hc hft hbS hlst hln hx hxl hcell hb2 hgS hce hst t1 t2 hup hgb hbx2 hcW hrd2 hl3 hxi hli hstep hlast
      go_wp2
      go_still_tail 9, (by kernel_rfl)
      (try change wpStill _ _ (World.drew _) _ _ _)
      (repeat still_step)
      (try refine wpStill_nil ?_)
      (try change wpList _ _ _ _ _ (World.drew _))
      go_wp2_with (go_at_call 97; (refine HJ.out.mono ?_; rintro e w3 ⟨rfl, H3, hc3⟩; have HH3 := Lib.hid H3; have HC3 := Lib.hid hc3; clear H3 hc3))
      go_roundg (ks.length - k - 1)
      case measure => omega
      case rel => exact ⟨k + 1, (x : Nat), by omega, rfl, by go_num, Lib.hid ⟨HLAST.out, HH3.out, HBX2.out.chg HC3.out HBS.out, HRD2.out.chg HC3.out HFT.out, HCW.out.trans HC3.out (fun k hk => .inl hk)⟩⟩
    · obtain rfl : k = ks.length := by omega
      have et : ks.take ks.length = ks := List.take_length
      rw [et] at hlst H1 hln
      have hli : In (c.moved gp gl ks) lst := by
        rw [hlst]
        rcases lastOr_mem (A := ks) (x := gl) with ⟨_, hh⟩ | ⟨m, hm, hh⟩
        · rw [hh]; exact HIL.out.mono hln
        · rw [hh]; exact .inr ⟨m, rfl, by rw [hln]; exact HLK.out m hm⟩
      have HJ := Lib.hid (join_any H1 (by rw [hln]; exact hlN) (HIP.out.mono hln).ix hli.ix (HIR.out.mono hln).ix)
      obtain ⟨c5, hc5⟩ : ∃ c5, c5 = (c.moved gp gl ks).join gp lst gr := ⟨_, rfl⟩
      rw [← hc5] at HJ
      have hl5 : c5.N.length = c.N.length := by rw [hc5, join_len]; exact hln
      have hF5 : c5.F = c.F := by rw [hc5, join_F, moved_F]
      have HD := Lib.hid (show c.drop n ks = { c5 with N := clr c5.N [n], F := c5.F ++ [n] } by rw [HDR.out, hc5, hlst])
      have x1 := hbx.cell 1
      have x4 := hbx.cell 4
      have lbx := hbx.lt
      simp only [List.getElem?_toArray, List.getElem?_cons_zero, List.getElem?_cons_succ] at x1 x4
      have HFRE := Lib.hid (fun W (hT : TreeAt W h S c5) (v : Value) (hv : Rd W v (iN [n])) (hf : ∀ k ∈ foot v, k ∉ S) => free_any hT hv hf (fun m hm => by simp at hm; subst hm; rw [hl5]; exact HN1.out) (by rw [hl5]; exact hlN) (by simp) (by rw [hF5]; exact hFl))
      have HC := Lib.hid hc
      clear HI H1 hbx hrd hft hbS hlst hln hli hc5 hl5 hF5 et hc
      go_wp2_with (first
        | (go_at_call 97; (refine HJ.out.mono ?_; rintro e w3 ⟨rfl, H3, hc3⟩; have HH3 := Lib.hid H3; have HC3 := Lib.hid (HC.out.trans hc3 (fun k hk => .inl hk)); clear H3 hc3))
        | (go_at_call 89; (refine (HFRE.out _ (HH3.out.quiet ((Chg.refl _ _).alloc _)) _ (Rd.one w3 _) (fun k hk hkS => by simp [foot_some] at hk; subst hk; have := hSlt.out _ hkS; have := HC3.out.size; omega)).mono ?_; rintro e w4 ⟨rfl, hT⟩; have HT := Lib.hid (Turns.trans (S := S) (fun k hk => .inl hk) (HC3.out.alloc _) hT); clear hT)))
      go_ret
      exact ⟨rfl, _, HSIM.out, by rw [HD.out]; exact HT.out⟩
end
end Go.Proofs
end
