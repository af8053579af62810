import Derived.Test.YtfgahilgjpjncaaWalkW
import Derived.Test.YtfgahilgjpjncaaIdxD
namespace Go.Proofs.Ytfgahilgjpjncaa
set_option linter.unusedVariables false
set_option linter.unusedSimpArgs false
open Go.RowKit

section
variable {w w' : World} {g N : Nat} {es : List Edg} {ev : Value} {tb nt tcap : Nat} {pr : Int}
theorem GW.gtb (h : GW w g N es ev tb nt tcap pr) : g ≠ tb := by
  obtain ⟨F, hF⟩ := h.rt
  exact (rowIs_ty h.rg).ne (rowIs_ty hF) (by decide)
theorem GW.tyT (h : GW w g N es ev tb nt tcap pr) : TyAt w tb 87 := by
  obtain ⟨F, hF⟩ := h.rt
  exact rowIs_ty hF
theorem GW.set (h : GW w g N es ev tb nt tcap pr) (i : Nat) (v : Value) : GW (w.setCell ⟨tb, i, none⟩ v) g N es ev tb nt tcap pr := by
  obtain ⟨F, hF⟩ := h.rt
  have b := But.setCell w ⟨tb, i, none⟩ v
  exact ⟨row_but h.rg b h.gtb, h.ed.but b (h.ed.notIn h.tyT (by decide)), ⟨_, hF.set i v⟩, h.tl, h.tm, h.n1, h.n48, h.inr, h.nt6⟩
theorem GW.frT (h : GW w g N es ev tb nt tcap pr) : ∀ o, w.frozen? ⟨tb, o, none⟩ = false := by
  obtain ⟨F, hF⟩ := h.rt
  exact hF.frozen
theorem GW.cT (h : GW w g N es ev tb nt tcap pr) (i : Nat) (hi : i < nt) : ∃ v, w.cell? ⟨tb, i, none⟩ = some v := by
  obtain ⟨F, hF⟩ := h.rt
  exact ⟨_, hF.cell (by have := h.tl; omega)⟩
end

/-- Slices of items that are being gathered. -/
def GrowS (w : World) (B : Nat) (v : Value) (n : Nat) : Prop := ∃ xs, w.ownsRow B 71 1 v n xs
theorem GrowS.below {w w' : World} {B C : Nat} {v : Value} {n : Nat} (h : GrowS w B v n) (b : Below C w w') (hC : w.heap.size ≤ C) : GrowS w' B v n := by
  obtain ⟨xs, h⟩ := h
  exact ⟨xs, owns_below h b hC⟩
theorem NumsAt.below {w w' : World} {B C : Nat} {v : Value} {l : List Nat} (h : NumsAt w B v l) (b : Below C w w') (hC : w.heap.size ≤ C) : NumsAt w' B v l := ⟨owns_below h.1 b hC, h.2⟩
theorem NumsAt.grown {w w' : World} {B : Nat} {v : Value} {l : List Nat} {row : Option Nat} (h : NumsAt w B v l) (g : w.grownBy w' row) (hr : ∀ k, row = some k → ¬ TyAt w k 3) : NumsAt w' B v l := by
  refine ⟨⟨h.1.1, ?_⟩, h.2⟩
  rcases h.1.2 with k | ⟨gb, cap, cur, hv, hB, hg, hle⟩
  · exact Or.inl k
  · exact Or.inr ⟨gb, cap, cur, hv, hB, by rw [g.block gb (Array.getElem?_eq_some_iff.1 hg).1 (fun q => hr gb q.symm ⟨cur, hg⟩)]; exact hg, hle⟩
theorem GrowS.grown {w w' : World} {B : Nat} {v : Value} {n : Nat} {row : Option Nat} (h : GrowS w B v n) (g : w.grownBy w' row) (hr : ∀ k, row = some k → ¬ TyAt w k 71) : GrowS w' B v n := by
  obtain ⟨xs, h⟩ := h
  refine ⟨xs, h.1, ?_⟩
  rcases h.2 with k | ⟨gb, cap, cur, hv, hB, hg, hle⟩
  · exact Or.inl k
  · exact Or.inr ⟨gb, cap, cur, hv, hB, by rw [g.block gb (Array.getElem?_eq_some_iff.1 hg).1 (fun q => hr gb q.symm ⟨cur, hg⟩)]; exact hg, hle⟩

/-- What tours answers. -/
def ToursR (g N : Nat) (es : List Edg) (ev : Value) (tb nt tcap : Nat) (pr : Int) (w : World) (e : Ending) (w' : World) : Prop := ∃ b : Bool, e = .returned (.bool b) ∧ GW w' g N es ev tb nt tcap pr ∧ But (fun k => k = tb) w w'

/-- The numbers that are left. -/
def Left (w : World) (v : Value) : Prop := ∃ ts : List Nat, IntsAt w v ts ∧ ∀ n, n ∈ ts → n < 2 ^ 28
theorem Left.below {w w' : World} {v : Value} (h : Left w v) (b : Below w.heap.size w w') : Left w' v := by
  obtain ⟨ts, h1, h2⟩ := h
  exact ⟨ts, h1.below b (Nat.le_refl _), h2⟩
theorem Left.len {w : World} {v : Value} (h : Left w v) : ∃ p n c, v = .slice p n c := by
  obtain ⟨ts, h1, h2⟩ := h
  rcases h1 with ⟨e, _⟩ | ⟨b, o, cap, e, l1, l2, l3, l4⟩
  · exact ⟨_, _, _, e⟩
  · exact ⟨_, _, _, e⟩
theorem Left.form {w : World} {v : Value} (h : Left w v) : (v = .slice none 0 0) ∨ ∃ b o n cap x, v = .slice (some ⟨b, o, none⟩) n cap ∧ n ≤ cap ∧ cap ≤ maxLen ∧ (0 < n → w.cell? ⟨b, o, none⟩ = some (.int .i64 ((x : Nat) : Int))) ∧ (∀ o', (o' = o + 1 ∨ n = 1) → 0 < n → Left w (.slice (some ⟨b, o', none⟩) (n - 1) (cap - 1))) := by
  obtain ⟨ts, h1, h2⟩ := h
  rcases h1 with ⟨e, _⟩ | ⟨b, o, cap, e, l1, l2, l3, l4⟩
  · exact Or.inl e
  · exact Or.inr ⟨b, o, ts.length, cap, ts[0]?.getD 0, e, l1, l2, fun q => l4 0 q, fun o' ho hn => ⟨ts.drop 1, ints_drop l1 l2 l3 l4 1 hn o' ho, fun n hn => h2 n (List.mem_of_mem_drop hn)⟩⟩
theorem Left.set {w : World} {v : Value} (h : Left w v) {tb t : Nat} (ht : TyAt w tb t) (hne : t ≠ 3) (i : Nat) (u : Value) : Left (w.setCell ⟨tb, i, none⟩ u) v := by
  obtain ⟨ts, h1, h2⟩ := h
  refine ⟨ts, ?_, h2⟩
  rcases h1 with e | ⟨b, o, cap, e, l1, l2, l3, l4⟩
  · exact Or.inl e
  · have ne : tb ≠ b := ht.ne l3 hne
    refine Or.inr ⟨b, o, cap, e, l1, l2, ?_, fun j hj => by rw [far ne]; exact l4 j hj⟩
    obtain ⟨c, hc⟩ := l3
    exact ⟨c, by rw [(But.setCell w ⟨tb, i, none⟩ u).block b (Array.getElem?_eq_some_iff.1 hc).1 (fun q => ne q.symm)]; exact hc⟩

theorem Left.grown {w w' : World} {v : Value} {row : Option Nat} (h : Left w v) (g : w.grownBy w' row) (hr : ∀ k, row = some k → ¬ TyAt w k 3) : Left w' v := by
  obtain ⟨ts, h1, h2⟩ := h
  refine ⟨ts, ?_, h2⟩
  rcases h1 with e | ⟨b, o, cap, e, l1, l2, l3, l4⟩
  · exact Or.inl e
  · have eb := g.block b l3.lt (fun q => hr b q.symm l3)
    refine Or.inr ⟨b, o, cap, e, l1, l2, ?_, fun j hj => by rw [World.cell?_of_block (w := w) (a := ⟨b, o + j, none⟩) eb]; exact l4 j hj⟩
    obtain ⟨c, hc⟩ := l3
    exact ⟨c, by rw [eb]; exact hc⟩

set_option maxRecDepth 100000 in
set_option maxHeartbeats 2000000 in
theorem tours_any (w : World) (g N : Nat) (es : List Edg) (ev : Value) (tb nt tcap : Nat) (pr : Int) (h : GW w g N es ev tb nt tcap pr) (tv : Value) (hT : Left w tv) (hes : es.length ≤ 2 ^ 20) :
    Calls Try.prog 52 #[ptr g, tv] w (ToursR g N es ev tb nt tcap pr w) := by
  have n48 := h.n48
  have n6 := h.nt6
  have d2 := h.c2
  have ntl := h.tl
  have ntm := h.tm
  unfold maxLen at ntm
  have HG := hid h
  have HT := hid hT
  clear h hT
  obtain ⟨i3, q0, q1, q2, q3⟩ := info_parts Try.info3
  obtain ⟨i71, p0, p1, p2, p3⟩ := info_parts Try.info71
  go_enter Try.func52, Try.ntmps52
  go_wp2_with fail
  clear d2
  go_loopw [1, 23] (fun a c wr => ∃ i : Nat, i ≤ nt ∧ c = .int .i64 i ∧ Hid (Left wr a) ∧ Hid (GW wr g N es ev tb nt tcap pr) ∧ Hid (But (fun k => k = tb) w wr)) (fun _ c _ => nt - (intOf c).toNat)
  case atStart => exact ⟨0, by omega, rfl, HT, HG, But.refl _ _⟩
  case round =>
    clear HG HT
    obtain ⟨i, hi, rfl, hL, hG, hBt⟩ := hrel
    by_cases ci : i < nt
    · have ci' : (i : Int) < (nt : Int) := by omega
      obtain ⟨w1, hw1⟩ : ∃ w1 : World, w1 = wr := ⟨_, rfl⟩
      rw [← hw1] at hL hG hBt ⊢
      clear hw1 wr
      go_wp2_with fail
      go_loopw [6, 7, 8] (fun a b c wr => ∃ (v k : Nat) (want : List Nat), v ≤ N ∧ c = .int .i64 v ∧ want.length ≤ v ∧ k ≤ v ∧ Hid (∀ x, x ∈ want → x < N) ∧ Hid (NumsAt wr w1.heap.size a want) ∧ Hid (GrowS wr w1.heap.size b k) ∧ Hid (Below w1.heap.size w1 wr)) (fun _ _ c _ => N - (intOf c).toNat)
      case atStart => exact ⟨0, 0, [], by omega, rfl, by simp, by omega, fun x hx => by simp at hx, ⟨World.ownsRow_nil _ _ _ _, fun n hn => by simp at hn⟩, ⟨[], World.ownsRow_nil _ _ _ _⟩, Below.refl _ _⟩
      case round =>
        obtain ⟨v, k, want, hv, rfl, hwl, hkv, hW, hN, hS, hB⟩ := hrel
        have hBs := hB.out.size
        have HGr := hid (hG.out.below hB.out)
        have d0 := HGr.out.c0
        by_cases cv : v < N
        · have cv' : (v : Int) < (N : Int) := by omega
          go_wp2_with fail
          refine (Component_any g N v i true es ev wr HGr.out.c0 HGr.out.c1 HGr.out.ed n48 (by omega) cv' HGr.out.inr).mono ?_
          rintro e w2 ⟨rfl, ⟨r, hR, _⟩, hb2⟩
          have HR := hid hR
          have HB2 : Hid (Below w1.heap.size w1 w2) := hB.out.trans (hb2.mono hBs)
          have HN2 := hid (hN.out.below hb2 (Nat.le_refl _))
          have HS2 := hid (hS.out.below hb2 (Nat.le_refl _))
          have hB2s := HB2.out.size
          clear hR hb2 d0 hN hS hB HGr
          go_wp2_with fail
          go_loopw [10, 11, 40] (fun a b c wr => ∃ (s : Nat) (f : Bool) (j : Nat), j ≤ N ∧ s ≤ j ∧ a = .int .i64 s ∧ b = .bool f ∧ c = .int .i64 j ∧ wr = w2) (fun _ _ c _ => N - (intOf c).toNat)
          case atStart => exact ⟨0, true, 0, by omega, by omega, rfl, rfl, rfl, rfl⟩
          case round =>
            obtain ⟨s, f, j, hj, hs, rfl, rfl, rfl, rfl⟩ := hrel
            by_cases cj : j < N
            · have cj' : (j : Int) < (N : Int) := by omega
              have d := World.rowIs.cell HR.out (i := j) cj
              generalize r j = rj at d
              cases rj
              · go_wp2
                exact ⟨⟨s, f, j + 1, by omega, by omega, rfl, rfl, by go_num, by trivial⟩, by simp [intOf]; omega⟩
              · cases f
                · go_wp2
                  exact ⟨⟨s + 1, false, j + 1, by omega, by omega, by go_num, rfl, by go_num, by trivial⟩, by simp [intOf]; omega⟩
                · go_wp2
                  exact ⟨⟨s + 1, _, j + 1, by omega, by omega, by go_num, rfl, by go_num, by trivial⟩, by simp [intOf]; omega⟩
            · have cj' : ¬ (j : Int) < (N : Int) := by omega
              cases f
              · go_wp2
                exact ⟨⟨v + 1, k, want, by omega, by go_num, by omega, by omega, hW, HN2, HS2, HB2⟩, by simp [intOf]; omega⟩
              · by_cases c1 : 1 < s
                · have c1' : (1 : Int) < (s : Int) := by omega
                  have HM : Hid (want.length + 1 ≤ maxLen) := by show _ ≤ _; unfold maxLen; omega
                  go_wp2_with (at_builtin; refine wpList_append_own _ rfl (.tmp 62) (.tmp 64) 45 rfl w1.heap.size 3 i3 _ 1 8 Try.underlying45 q0 q1 q2 q3 rfl (by decide) _ want.length _ rfl (HN2.out.1.alloc _) ⟨wr.heap.size, 0, none⟩ 1 1 [.int .i64 v] rfl rfl (one_cell wr _ _) (fun y hy => by simp at hy; subst hy; rfl) HM.out (by omega) (by simp; omega) ?_; intro v' w3 ho hg _)
                  have R1 : NumsAt w3 w1.heap.size v' (want ++ [v]) := by
                    refine ⟨by rw [List.length_append, List.map_append]; exact ho, fun m hm => ?_⟩
                    rcases List.mem_append.1 hm with q | q
                    · exact HN2.out.2 m q
                    · simp at q; omega
                  have R2 : Below w1.heap.size w1 w3 := (HB2.out.alloc hB2s _).grown hg (by simp; omega) (fun k hk => (HN2.out.1.lt k hk).1)
                  have R3 : GrowS w3 w1.heap.size u7 k := (HS2.out.below ((Below.refl _ _).alloc (Nat.le_refl _) _) (Nat.le_refl _)).grown hg (owns_not (HN2.out.1.alloc _) (by decide))
                  have R4 : ∀ x, x ∈ want ++ [v] → x < N := fun x hx => by
                    rcases List.mem_append.1 hx with q | q
                    · exact hW.out x q
                    · simp at q; omega
                  exact ⟨⟨v + 1, k, want ++ [v], by omega, by go_num, by rw [List.length_append]; simp; omega, by omega, R4, R1, R3, R2⟩, by simp [intOf]; omega⟩
                · have c1' : ¬ (1 : Int) < (s : Int) := by omega
                  obtain ⟨xs, hxs⟩ := HS2.out
                  have HXs := hid hxs
                  have HM : Hid (k + 1 ≤ maxLen) := by show _ ≤ _; unfold maxLen; omega
                  clear hxs
                  go_wp2_with (at_builtin; refine wpList_append_own _ rfl (.tmp 68) (.tmp 72) 87 rfl w1.heap.size 71 i71 (.slice none 0 0) 1 24 Try.underlying87 p0 p1 p2 p3 rfl (by decide) _ k xs rfl ((HXs.out.alloc _).alloc _) ⟨wr.heap.size + 1, 0, none⟩ 1 1 [.slice (some ⟨wr.heap.size, 0, none⟩) 1 1] rfl rfl (fun j y hj => by match j, hj with | 0, hj => (simp at hj; subst hj; rw [addr_add, show wr.heap.size + 1 = (wr.alloc (.cells #[.int .i64 v, .int .i64 (-1)] 74)).heap.size by simp]; exact new_cell _ _ _ 0)) (fun y hy => by simp at hy; subst hy; rfl) HM.out (by omega) (by simp; omega) ?_; intro v' w3 ho hg _)
                  have R2 : Below w1.heap.size w1 w3 := ((HB2.out.alloc hB2s _).alloc (by simp; omega) _).grown hg (by simp; omega) (fun k hk => (HXs.out.lt k hk).1)
                  have R1 : NumsAt w3 w1.heap.size u6 want := ((HN2.out.below ((Below.refl _ _).alloc (Nat.le_refl _) _) (Nat.le_refl _)).below ((Below.refl _ _).alloc (Nat.le_refl _) _) (Nat.le_refl _)).grown hg (owns_not ((HXs.out.alloc _).alloc _) (by decide))
                  exact ⟨⟨v + 1, k + 1, want, by omega, by go_num, by omega, by omega, hW, R1, ⟨_, ho⟩, R2⟩, by simp [intOf]; omega⟩
        · have cv' : ¬ (v : Int) < (N : Int) := by omega
          have HL := hid (hL.out.below hB.out)
          have HBt : Hid (But (fun k => k = tb) w wr) := hBt.out.trans (But.of (S := fun k => k = tb) hB.out) (fun _ _ q => q)
          obtain ⟨wp, wc, hwv⟩ : ∃ p c, u6 = .slice p want.length c := by
            rcases hN.out.1.2 with ⟨q, q2⟩ | ⟨gb, cap, cur, q, _⟩
            · exact ⟨none, 0, by rw [q, q2]⟩
            · exact ⟨_, _, q⟩
          subst hwv
          rcases HL.out.form with hnil | ⟨tbk, tof, tn, tc, x, htv, t1, t2, t3, t4⟩
          · subst hnil
            go_wp2
            go_ret
            exact ⟨false, rfl, HGr.out, HBt.out⟩
          · subst htv
            unfold maxLen at t2
            by_cases n0 : 0 < tn
            · have y := t3 n0
              have HLd : Hid (∀ o', (o' = tof + 1 ∨ tn = 1) → Left wr (.slice (some ⟨tbk, o', none⟩) (tn - 1) (tc - 1))) := fun o' ho => t4 o' ho n0
              clear t3 t4
              have zn : ((tn : Int) == 0) = false := by simp; omega
              by_cases cx : (x : Int) = (want.length : Int)
              · have cx' : ((x : Int) != (want.length : Int)) = false := by simpa using cx
                have s1 : (1 : Int) ≤ (tn : Int) := by omega
                clear cx
                have HLz : Hid (tc = 1 → Left wr (.slice (some ⟨tbk, tof, none⟩) 0 0)) := fun q => by
                  have q2 := HLd.out tof (Or.inr (by omega))
                  have e1 : tn - 1 = 0 := by omega
                  have e2 : tc - 1 = 0 := by omega
                  rw [e1, e2] at q2
                  exact q2
                obtain ⟨w5, hw5⟩ : ∃ w5 : World, w5 = wr := ⟨_, rfl⟩
                rw [← hw5] at hN hS hB hBs HGr d0 HL HBt y HLd HLz ⊢
                clear hw5 wr
                by_cases hcap : tc = 1
                · have htn : tn = 1 := by omega
                  subst hcap htn
                  go_wp2_with fail
                  go_loopw [1, 7, 89] (fun a b c wr => ∃ m k2 : Nat, m ≤ want.length ∧ c = .int .i64 m ∧ k2 ≤ N + m ∧ Hid (Left wr a) ∧ Hid (GrowS wr w1.heap.size b k2) ∧ Hid (NumsAt wr w1.heap.size (.slice wp want.length wc) want) ∧ Hid (Below w1.heap.size w1 wr)) (fun _ _ c _ => want.length - (intOf c).toNat)
                  case atStart => exact ⟨0, k, by omega, rfl, by omega, HLz.out trivial, hS, hN, hB⟩
                  case round =>
                    clear hS HLd HLz y d0 hN hB hBs
                    obtain ⟨m, k2, hm, rfl, hk2, hLr, hSr, hNr, HB1r⟩ := hrel
                    have hB1s := HB1r.out.size
                    have HGx := hid (hG.out.below HB1r.out)
                    have HBx : Hid (But (fun k => k = tb) w wr) := hBt.out.trans (But.of (S := fun k => k = tb) HB1r.out) (fun _ _ q => q)
                    by_cases cm : m < want.length
                    · have cm' : (m : Int) < (want.length : Int) := by omega
                      obtain ⟨gb, gc, hgp, _, _, hgl, hgm, _, hgd⟩ := hNr.out.at_ (by omega)
                      simp only [Value.slice.injEq, true_and] at hgp
                      obtain ⟨rfl, rfl⟩ := hgp
                      have d := hgd m cm
                      clear hgd
                      have xN : want[m]?.getD 0 < N := hW.out _ (by rw [get_eq cm]; exact List.getElem_mem cm)
                      obtain ⟨y, hy⟩ : ∃ y, y = want[m]?.getD 0 := ⟨_, rfl⟩
                      rw [← hy] at d xN
                      clear hy
                      unfold maxLen at hgm
                      go_wp2_with fail
                      obtain ⟨ts, hts1, hts2⟩ := hLr.out
                      refine (walk_any wr g N es ev tb nt tcap pr HGx.out i y (by omega) xN _ ts hts1 hts2 hes).mono ?_
                      rintro e w6 ⟨lp, ln, lc, v2, ok, rfl, hok, hb6⟩
                      have HB6 : Hid (Below w1.heap.size w1 w6) := HB1r.out.trans (hb6.mono hB1s)
                      have HN6 := hid (hNr.out.below hb6 (Nat.le_refl _))
                      have HG6 := hid (HGx.out.below hb6)
                      have HT6 : Hid (But (fun k => k = tb) w w6) := HBx.out.trans (But.of (S := fun k => k = tb) hb6) (fun _ _ q => q)
                      have hb6s := hb6.size
                      cases ok
                      · clear hok hb6 hts1 hts2 d
                        go_wp2
                        go_ret
                        exact ⟨false, rfl, HG6.out, HT6.out⟩
                      · obtain ⟨kk, hI⟩ := hok rfl
                        have HL6 : Hid (Left w6 v2) := ⟨ts.drop kk, hI, fun n hn => hts2 n (List.mem_of_mem_drop hn)⟩
                        obtain ⟨xs, hxs⟩ := hSr.out.below hb6 (Nat.le_refl _)
                        have HXs := hid hxs
                        have HM : Hid (k2 + 1 ≤ maxLen) := by show _ ≤ _; unfold maxLen; omega
                        clear hok hb6 hts1 hts2 d hI hxs
                        go_wp2_with (at_builtin; refine wpList_append_own _ rfl (.tmp 104) (.tmp 106) 87 rfl w1.heap.size 71 i71 (.slice none 0 0) 1 24 Try.underlying87 p0 p1 p2 p3 rfl (by decide) _ k2 xs rfl (HXs.out.alloc _) ⟨w6.heap.size, 0, none⟩ 1 1 [.slice lp ln lc] rfl rfl (one_cell w6 _ _) (fun y hy => by simp at hy; subst hy; rfl) HM.out (by omega) (by simp; omega) ?_; intro v' w7 ho hg _)
                        have R1 : Left w7 v2 := (HL6.out.below ((Below.refl _ _).alloc (Nat.le_refl _) _)).grown hg (owns_not (HXs.out.alloc _) (by decide))
                        have R2 : Below w1.heap.size w1 w7 := (HB6.out.alloc (by omega) _).grown hg (by simp; omega) (fun k hk => (HXs.out.lt k hk).1)
                        have R3 := (HN6.out.below ((Below.refl _ _).alloc (Nat.le_refl _) _) (Nat.le_refl _)).grown hg (owns_not (HXs.out.alloc _) (by decide))
                        exact ⟨⟨m + 1, k2 + 1, by omega, by go_num, by omega, R1, ⟨_, ho⟩, R3, R2⟩, by simp [intOf]; omega⟩
                    · have cm' : ¬ (m : Int) < (want.length : Int) := by omega
                      have e2 := HGx.out.c2
                      obtain ⟨tv0, e3⟩ := HGx.out.cT i ci
                      have e4 := HGx.out.frT
                      obtain ⟨xs, hxs⟩ := hSr.out
                      obtain ⟨sp, sn, sc, hsv⟩ := owns_form hxs
                      clear hxs
                      subst hsv
                      go_wp2
                      exact ⟨⟨i + 1, by omega, by go_num, hLr.out.set HGx.out.tyT (by decide) _ _, HGx.out.set _ _, HBx.out.trans (But.setCell _ _ _) (fun _ _ q => q)⟩, by simp [intOf]; omega⟩
                · go_wp2_with fail
                  go_loopw [1, 7, 89] (fun a b c wr => ∃ m k2 : Nat, m ≤ want.length ∧ c = .int .i64 m ∧ k2 ≤ N + m ∧ Hid (Left wr a) ∧ Hid (GrowS wr w1.heap.size b k2) ∧ Hid (NumsAt wr w1.heap.size (.slice wp want.length wc) want) ∧ Hid (Below w1.heap.size w1 wr)) (fun _ _ c _ => want.length - (intOf c).toNat)
                  case atStart => exact ⟨0, k, by omega, rfl, by omega, HLd.out _ (Or.inl rfl), hS, hN, hB⟩
                  case round =>
                    clear hS HLd HLz y d0 hN hB hBs
                    obtain ⟨m, k2, hm, rfl, hk2, hLr, hSr, hNr, HB1r⟩ := hrel
                    have hB1s := HB1r.out.size
                    have HGx := hid (hG.out.below HB1r.out)
                    have HBx : Hid (But (fun k => k = tb) w wr) := hBt.out.trans (But.of (S := fun k => k = tb) HB1r.out) (fun _ _ q => q)
                    by_cases cm : m < want.length
                    · have cm' : (m : Int) < (want.length : Int) := by omega
                      obtain ⟨gb, gc, hgp, _, _, hgl, hgm, _, hgd⟩ := hNr.out.at_ (by omega)
                      simp only [Value.slice.injEq, true_and] at hgp
                      obtain ⟨rfl, rfl⟩ := hgp
                      have d := hgd m cm
                      clear hgd
                      have xN : want[m]?.getD 0 < N := hW.out _ (by rw [get_eq cm]; exact List.getElem_mem cm)
                      obtain ⟨y, hy⟩ : ∃ y, y = want[m]?.getD 0 := ⟨_, rfl⟩
                      rw [← hy] at d xN
                      clear hy
                      unfold maxLen at hgm
                      go_wp2_with fail
                      obtain ⟨ts, hts1, hts2⟩ := hLr.out
                      refine (walk_any wr g N es ev tb nt tcap pr HGx.out i y (by omega) xN _ ts hts1 hts2 hes).mono ?_
                      rintro e w6 ⟨lp, ln, lc, v2, ok, rfl, hok, hb6⟩
                      have HB6 : Hid (Below w1.heap.size w1 w6) := HB1r.out.trans (hb6.mono hB1s)
                      have HN6 := hid (hNr.out.below hb6 (Nat.le_refl _))
                      have HG6 := hid (HGx.out.below hb6)
                      have HT6 : Hid (But (fun k => k = tb) w w6) := HBx.out.trans (But.of (S := fun k => k = tb) hb6) (fun _ _ q => q)
                      have hb6s := hb6.size
                      cases ok
                      · clear hok hb6 hts1 hts2 d
                        go_wp2
                        go_ret
                        exact ⟨false, rfl, HG6.out, HT6.out⟩
                      · obtain ⟨kk, hI⟩ := hok rfl
                        have HL6 : Hid (Left w6 v2) := ⟨ts.drop kk, hI, fun n hn => hts2 n (List.mem_of_mem_drop hn)⟩
                        obtain ⟨xs, hxs⟩ := hSr.out.below hb6 (Nat.le_refl _)
                        have HXs := hid hxs
                        have HM : Hid (k2 + 1 ≤ maxLen) := by show _ ≤ _; unfold maxLen; omega
                        clear hok hb6 hts1 hts2 d hI hxs
                        go_wp2_with (at_builtin; refine wpList_append_own _ rfl (.tmp 104) (.tmp 106) 87 rfl w1.heap.size 71 i71 (.slice none 0 0) 1 24 Try.underlying87 p0 p1 p2 p3 rfl (by decide) _ k2 xs rfl (HXs.out.alloc _) ⟨w6.heap.size, 0, none⟩ 1 1 [.slice lp ln lc] rfl rfl (one_cell w6 _ _) (fun y hy => by simp at hy; subst hy; rfl) HM.out (by omega) (by simp; omega) ?_; intro v' w7 ho hg _)
                        have R1 : Left w7 v2 := (HL6.out.below ((Below.refl _ _).alloc (Nat.le_refl _) _)).grown hg (owns_not (HXs.out.alloc _) (by decide))
                        have R2 : Below w1.heap.size w1 w7 := (HB6.out.alloc (by omega) _).grown hg (by simp; omega) (fun k hk => (HXs.out.lt k hk).1)
                        have R3 := (HN6.out.below ((Below.refl _ _).alloc (Nat.le_refl _) _) (Nat.le_refl _)).grown hg (owns_not (HXs.out.alloc _) (by decide))
                        exact ⟨⟨m + 1, k2 + 1, by omega, by go_num, by omega, R1, ⟨_, ho⟩, R3, R2⟩, by simp [intOf]; omega⟩
                    · have cm' : ¬ (m : Int) < (want.length : Int) := by omega
                      have e2 := HGx.out.c2
                      obtain ⟨tv0, e3⟩ := HGx.out.cT i ci
                      have e4 := HGx.out.frT
                      obtain ⟨xs, hxs⟩ := hSr.out
                      obtain ⟨sp, sn, sc, hsv⟩ := owns_form hxs
                      clear hxs
                      subst hsv
                      go_wp2
                      exact ⟨⟨i + 1, by omega, by go_num, hLr.out.set HGx.out.tyT (by decide) _ _, HGx.out.set _ _, HBx.out.trans (But.setCell _ _ _) (fun _ _ q => q)⟩, by simp [intOf]; omega⟩
              · have cx' : ((x : Int) != (want.length : Int)) = true := by simpa using cx
                go_wp2
                go_ret
                exact ⟨false, rfl, HGr.out, HBt.out⟩
            · have hn0 : tn = 0 := by omega
              subst hn0
              go_wp2
              go_ret
              exact ⟨false, rfl, HGr.out, HBt.out⟩
    · have ci' : ¬ (i : Int) < (nt : Int) := by omega
      obtain ⟨lp, ln, lc, hlv⟩ := hL.out.len
      subst hlv
      go_wp2
      go_ret
      exact ⟨_, rfl, hG.out, hBt.out⟩

end Go.Proofs.Ytfgahilgjpjncaa
