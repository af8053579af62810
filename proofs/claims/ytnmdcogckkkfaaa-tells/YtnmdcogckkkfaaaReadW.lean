import Derived.Test.YtnmdcogckkkfaaaSvA
import Derived.Test.YtnmdcogckkkfaaaWalkW
import Derived.Deep.RegionHeld
import Derived.Deep.Light
import Derived.Test.YtnmdcogckkkfaaaLaw
namespace Go.Proofs.Ytnmdcogckkkfaaa
set_option linter.unusedVariables false
set_option linter.unusedSimpArgs false
open Go.RowKit

section
variable {w w' : World} {g N : Nat} {es : List Edg} {ev : Value} {tb nt tcap : Nat} {pr : Int}
theorem GW.gtb (h : GW w g N es ev tb nt tcap pr) : g ≠ tb := by
  obtain ⟨F, hF⟩ := h.rt
  exact (rowIs_ty h.rg).ne (rowIs_ty hF) (by decide)
theorem GW.tyT (h : GW w g N es ev tb nt tcap pr) : TyAt w tb 95 := by
  obtain ⟨F, hF⟩ := h.rt
  exact rowIs_ty hF
theorem GW.set (h : GW w g N es ev tb nt tcap pr) (i : Nat) (v : Value) : GW (w.setCell ⟨tb, i, none⟩ v) g N es ev tb nt tcap pr := by
  obtain ⟨F, hF⟩ := h.rt
  have b := But.setCell w ⟨tb, i, none⟩ v
  exact ⟨row_but h.rg b h.gtb, h.ed.but b (h.ed.notIn h.tyT (by decide)), ⟨_, hF.set i v⟩, h.tl, h.tm, h.n1, h.n48, h.inr, h.nt6⟩
theorem GW.frT (h : GW w g N es ev tb nt tcap pr) : ∀ o, w.frozen? ⟨tb, o, none⟩ = false := by
  obtain ⟨F, hF⟩ := h.rt
  exact hF.frozen
theorem GW.cT (h : GW w g N es ev tb nt tcap pr) (i : Nat) (hi : i < nt) : ∃ v, w.cell? ⟨tb, i, none⟩ = some v := by
  obtain ⟨F, hF⟩ := h.rt
  exact ⟨_, hF.cell (by have := h.tl; omega)⟩
end

/-- Slices of items that are being gathered. -/
def GrowS (w : World) (B : Nat) (v : Value) (n : Nat) : Prop := ∃ xs, w.ownsRow B 71 1 v n xs
theorem GrowS.below {w w' : World} {B C : Nat} {v : Value} {n : Nat} (h : GrowS w B v n) (b : Below C w w') (hC : w.heap.size ≤ C) : GrowS w' B v n := by
  obtain ⟨xs, h⟩ := h
  exact ⟨xs, owns_below h b hC⟩
theorem NumsAt.grown {w w' : World} {B : Nat} {v : Value} {l : List Nat} {row : Option Nat} (h : NumsAt w B v l) (g : w.grownBy w' row) (hr : ∀ k, row = some k → ¬ TyAt w k 3) : NumsAt w' B v l := by
  refine ⟨⟨h.1.1, ?_⟩, h.2⟩
  rcases h.1.2 with k | ⟨gb, cap, cur, hv, hB, hg, hle⟩
  · exact Or.inl k
  · exact Or.inr ⟨gb, cap, cur, hv, hB, by rw [g.block gb (Array.getElem?_eq_some_iff.1 hg).1 (fun q => hr gb q.symm ⟨cur, hg⟩)]; exact hg, hle⟩
theorem GrowS.grown {w w' : World} {B : Nat} {v : Value} {n : Nat} {row : Option Nat} (h : GrowS w B v n) (g : w.grownBy w' row) (hr : ∀ k, row = some k → ¬ TyAt w k 71) : GrowS w' B v n := by
  obtain ⟨xs, h⟩ := h
  refine ⟨xs, h.1, ?_⟩
  rcases h.2 with k | ⟨gb, cap, cur, hv, hB, hg, hle⟩
  · exact Or.inl k
  · exact Or.inr ⟨gb, cap, cur, hv, hB, by rw [g.block gb (Array.getElem?_eq_some_iff.1 hg).1 (fun q => hr gb q.symm ⟨cur, hg⟩)]; exact hg, hle⟩

/-- What tours answers. -/
def ToursR (g N : Nat) (es : List Edg) (ev : Value) (tb nt tcap : Nat) (pr : Int) (w : World) (e : Ending) (w' : World) : Prop := ∃ b : Bool, e = .returned (.bool b) ∧ GW w' g N es ev tb nt tcap pr ∧ But (fun k => k = tb) w w'

/-- The numbers that are left. -/
def Left (w : World) (v : Value) : Prop := ∃ ts : List Nat, IntsAt w v ts ∧ ∀ n, n ∈ ts → n < 2 ^ 28
theorem Left.below {w w' : World} {v : Value} (h : Left w v) (b : Below w.heap.size w w') : Left w' v := by
  obtain ⟨ts, h1, h2⟩ := h
  exact ⟨ts, h1.below b (Nat.le_refl _), h2⟩
theorem Left.len {w : World} {v : Value} (h : Left w v) : ∃ p n c, v = .slice p n c := by
  obtain ⟨ts, h1, h2⟩ := h
  rcases h1 with ⟨e, _⟩ | ⟨b, o, cap, e, l1, l2, l3, l4⟩
  · exact ⟨_, _, _, e⟩
  · exact ⟨_, _, _, e⟩
theorem Left.form {w : World} {v : Value} (h : Left w v) : (v = .slice none 0 0) ∨ ∃ b o n cap x, v = .slice (some ⟨b, o, none⟩) n cap ∧ n ≤ cap ∧ cap ≤ maxLen ∧ (0 < n → w.cell? ⟨b, o, none⟩ = some (.int .i64 ((x : Nat) : Int))) ∧ (∀ o', (o' = o + 1 ∨ n = 1) → 0 < n → Left w (.slice (some ⟨b, o', none⟩) (n - 1) (cap - 1))) := by
  obtain ⟨ts, h1, h2⟩ := h
  rcases h1 with ⟨e, _⟩ | ⟨b, o, cap, e, l1, l2, l3, l4⟩
  · exact Or.inl e
  · exact Or.inr ⟨b, o, ts.length, cap, ts[0]?.getD 0, e, l1, l2, fun q => l4 0 q, fun o' ho hn => ⟨ts.drop 1, ints_drop l1 l2 l3 l4 1 hn o' ho, fun n hn => h2 n (List.mem_of_mem_drop hn)⟩⟩
theorem Left.set {w : World} {v : Value} (h : Left w v) {tb t : Nat} (ht : TyAt w tb t) (hne : t ≠ 3) (i : Nat) (u : Value) : Left (w.setCell ⟨tb, i, none⟩ u) v := by
  obtain ⟨ts, h1, h2⟩ := h
  refine ⟨ts, ?_, h2⟩
  rcases h1 with e | ⟨b, o, cap, e, l1, l2, l3, l4⟩
  · exact Or.inl e
  · have ne : tb ≠ b := ht.ne l3 hne
    refine Or.inr ⟨b, o, cap, e, l1, l2, ?_, fun j hj => by rw [far ne]; exact l4 j hj⟩
    obtain ⟨c, hc⟩ := l3
    exact ⟨c, by rw [(But.setCell w ⟨tb, i, none⟩ u).block b (Array.getElem?_eq_some_iff.1 hc).1 (fun q => ne q.symm)]; exact hc⟩

theorem Left.grown {w w' : World} {v : Value} {row : Option Nat} (h : Left w v) (g : w.grownBy w' row) (hr : ∀ k, row = some k → ¬ TyAt w k 3) : Left w' v := by
  obtain ⟨ts, h1, h2⟩ := h
  refine ⟨ts, ?_, h2⟩
  rcases h1 with e | ⟨b, o, cap, e, l1, l2, l3, l4⟩
  · exact Or.inl e
  · have eb := g.block b l3.lt (fun q => hr b q.symm l3)
    refine Or.inr ⟨b, o, cap, e, l1, l2, ?_, fun j hj => by rw [World.cell?_of_block (w := w) (a := ⟨b, o + j, none⟩) eb]; exact l4 j hj⟩
    obtain ⟨c, hc⟩ := l3
    exact ⟨c, by rw [eb]; exact hc⟩

set_option maxRecDepth 100000 in
set_option maxHeartbeats 2000000 in
theorem tours_any (w : World) (g N : Nat) (es : List Edg) (ev : Value) (tb nt tcap : Nat) (pr : Int) (h : GW w g N es ev tb nt tcap pr) (tv : Value) (hT : Left w tv) (hes : es.length ≤ 2 ^ 20) :
    Calls Try.prog 57 #[ptr g, tv] w (ToursR g N es ev tb nt tcap pr w) := by
  have n48 := h.n48
  have n6 := h.nt6
  have d2 := h.c2
  have ntl := h.tl
  have ntm := h.tm
  unfold maxLen at ntm
  have HG := hid h
  have HT := hid hT
  clear h hT
  obtain ⟨i3, q0, q1, q2, q3⟩ := info_parts Try.info3
  obtain ⟨i71, p0, p1, p2, p3⟩ := info_parts Try.info71
  go_enter Try.func57, Try.ntmps57
  go_wp2_with fail
  clear d2
  go_loopw [1, 23] (fun a c wr => ∃ i : Nat, i ≤ nt ∧ c = .int .i64 i ∧ Hid (Left wr a) ∧ Hid (GW wr g N es ev tb nt tcap pr) ∧ Hid (But (fun k => k = tb) w wr)) (fun _ c _ => nt - (intOf c).toNat)
  case atStart => exact ⟨0, by omega, rfl, HT, HG, But.refl _ _⟩
  case round =>
    clear HG HT
    obtain ⟨i, hi, rfl, hL, hG, hBt⟩ := hrel
    by_cases ci : i < nt
    · have ci' : (i : Int) < (nt : Int) := by omega
      obtain ⟨w1, hw1⟩ : ∃ w1 : World, w1 = wr := ⟨_, rfl⟩
      rw [← hw1] at hL hG hBt ⊢
      clear hw1 wr
      go_wp2_with fail
      go_loopw [6, 7, 8] (fun a b c wr => ∃ (v k : Nat) (want : List Nat), v ≤ N ∧ c = .int .i64 v ∧ want.length ≤ v ∧ k ≤ v ∧ Hid (∀ x, x ∈ want → x < N) ∧ Hid (NumsAt wr w1.heap.size a want) ∧ Hid (GrowS wr w1.heap.size b k) ∧ Hid (Below w1.heap.size w1 wr)) (fun _ _ c _ => N - (intOf c).toNat)
      case atStart => exact ⟨0, 0, [], by omega, rfl, by simp, by omega, fun x hx => by simp at hx, ⟨World.ownsRow_nil _ _ _ _, fun n hn => by simp at hn⟩, ⟨[], World.ownsRow_nil _ _ _ _⟩, Below.refl _ _⟩
      case round =>
        obtain ⟨v, k, want, hv, rfl, hwl, hkv, hW, hN, hS, hB⟩ := hrel
        have hBs := hB.out.size
        have HGr := hid (hG.out.below hB.out)
        have d0 := HGr.out.c0
        by_cases cv : v < N
        · have cv' : (v : Int) < (N : Int) := by omega
          go_wp2_with fail
          refine (Component_any g N v i true es ev wr HGr.out.c0 HGr.out.c1 HGr.out.ed n48 (by omega) cv' HGr.out.inr).mono ?_
          rintro e w2 ⟨rfl, ⟨r, hR, _⟩, hb2⟩
          have HR := hid hR
          have HB2 : Hid (Below w1.heap.size w1 w2) := hB.out.trans (hb2.mono hBs)
          have HN2 := hid (hN.out.below hb2 (Nat.le_refl _))
          have HS2 := hid (hS.out.below hb2 (Nat.le_refl _))
          have hB2s := HB2.out.size
          clear hR hb2 d0 hN hS hB HGr
          go_wp2_with fail
          go_loopw [10, 11, 40] (fun a b c wr => ∃ (s : Nat) (f : Bool) (j : Nat), j ≤ N ∧ s ≤ j ∧ a = .int .i64 s ∧ b = .bool f ∧ c = .int .i64 j ∧ wr = w2) (fun _ _ c _ => N - (intOf c).toNat)
          case atStart => exact ⟨0, true, 0, by omega, by omega, rfl, rfl, rfl, rfl⟩
          case round =>
            obtain ⟨s, f, j, hj, hs, rfl, rfl, rfl, rfl⟩ := hrel
            by_cases cj : j < N
            · have cj' : (j : Int) < (N : Int) := by omega
              have d := World.rowIs.cell HR.out (i := j) cj
              generalize r j = rj at d
              cases rj
              · go_wp2
                exact ⟨⟨s, f, j + 1, by omega, by omega, rfl, rfl, by go_num, by trivial⟩, by simp [intOf]; omega⟩
              · cases f
                · go_wp2
                  exact ⟨⟨s + 1, false, j + 1, by omega, by omega, by go_num, rfl, by go_num, by trivial⟩, by simp [intOf]; omega⟩
                · go_wp2
                  exact ⟨⟨s + 1, _, j + 1, by omega, by omega, by go_num, rfl, by go_num, by trivial⟩, by simp [intOf]; omega⟩
            · have cj' : ¬ (j : Int) < (N : Int) := by omega
              cases f
              · go_wp2
                exact ⟨⟨v + 1, k, want, by omega, by go_num, by omega, by omega, hW, HN2, HS2, HB2⟩, by simp [intOf]; omega⟩
              · by_cases c1 : 1 < s
                · have c1' : (1 : Int) < (s : Int) := by omega
                  have HM : Hid (want.length + 1 ≤ maxLen) := by show _ ≤ _; unfold maxLen; omega
                  go_wp2_with (at_builtin; refine wpList_append_own _ rfl (.tmp 62) (.tmp 64) 45 rfl w1.heap.size 3 i3 _ 1 8 Try.underlying45 q0 q1 q2 q3 rfl (by decide) _ want.length _ rfl (HN2.out.1.alloc _) ⟨wr.heap.size, 0, none⟩ 1 1 [.int .i64 v] rfl rfl (one_cell wr _ _) (fun y hy => by simp at hy; subst hy; rfl) HM.out (by omega) (by simp; omega) ?_; intro v' w3 ho hg _)
                  have R1 : NumsAt w3 w1.heap.size v' (want ++ [v]) := by
                    refine ⟨by rw [List.length_append, List.map_append]; exact ho, fun m hm => ?_⟩
                    rcases List.mem_append.1 hm with q | q
                    · exact HN2.out.2 m q
                    · simp at q; omega
                  have R2 : Below w1.heap.size w1 w3 := (HB2.out.alloc hB2s _).grown hg (by simp; omega) (fun k hk => (HN2.out.1.lt k hk).1)
                  have R3 : GrowS w3 w1.heap.size u7 k := (HS2.out.below ((Below.refl _ _).alloc (Nat.le_refl _) _) (Nat.le_refl _)).grown hg (owns_not (HN2.out.1.alloc _) (by decide))
                  have R4 : ∀ x, x ∈ want ++ [v] → x < N := fun x hx => by
                    rcases List.mem_append.1 hx with q | q
                    · exact hW.out x q
                    · simp at q; omega
                  exact ⟨⟨v + 1, k, want ++ [v], by omega, by go_num, by rw [List.length_append]; simp; omega, by omega, R4, R1, R3, R2⟩, by simp [intOf]; omega⟩
                · have c1' : ¬ (1 : Int) < (s : Int) := by omega
                  obtain ⟨xs, hxs⟩ := HS2.out
                  have HXs := hid hxs
                  have HM : Hid (k + 1 ≤ maxLen) := by show _ ≤ _; unfold maxLen; omega
                  clear hxs
                  go_wp2_with (at_builtin; refine wpList_append_own _ rfl (.tmp 68) (.tmp 72) 95 rfl w1.heap.size 71 i71 (.slice none 0 0) 1 24 Try.underlying95 p0 p1 p2 p3 rfl (by decide) _ k xs rfl ((HXs.out.alloc _).alloc _) ⟨wr.heap.size + 1, 0, none⟩ 1 1 [.slice (some ⟨wr.heap.size, 0, none⟩) 1 1] rfl rfl (fun j y hj => by match j, hj with | 0, hj => (simp at hj; subst hj; rw [addr_add, show wr.heap.size + 1 = (wr.alloc (.cells #[.int .i64 v, .int .i64 (-1)] 74)).heap.size by simp]; exact new_cell _ _ _ 0)) (fun y hy => by simp at hy; subst hy; rfl) HM.out (by omega) (by simp; omega) ?_; intro v' w3 ho hg _)
                  have R2 : Below w1.heap.size w1 w3 := ((HB2.out.alloc hB2s _).alloc (by simp; omega) _).grown hg (by simp; omega) (fun k hk => (HXs.out.lt k hk).1)
                  have R1 : NumsAt w3 w1.heap.size u6 want := ((HN2.out.below ((Below.refl _ _).alloc (Nat.le_refl _) _) (Nat.le_refl _)).below ((Below.refl _ _).alloc (Nat.le_refl _) _) (Nat.le_refl _)).grown hg (owns_not ((HXs.out.alloc _).alloc _) (by decide))
                  exact ⟨⟨v + 1, k + 1, want, by omega, by go_num, by omega, by omega, hW, R1, ⟨_, ho⟩, R2⟩, by simp [intOf]; omega⟩
        · have cv' : ¬ (v : Int) < (N : Int) := by omega
          have HL := hid (hL.out.below hB.out)
          have HBt : Hid (But (fun k => k = tb) w wr) := hBt.out.trans (But.of (S := fun k => k = tb) hB.out) (fun _ _ q => q)
          obtain ⟨wp, wc, hwv⟩ : ∃ p c, u6 = .slice p want.length c := by
            rcases hN.out.1.2 with ⟨q, q2⟩ | ⟨gb, cap, cur, q, _⟩
            · exact ⟨none, 0, by rw [q, q2]⟩
            · exact ⟨_, _, q⟩
          subst hwv
          rcases HL.out.form with hnil | ⟨tbk, tof, tn, tc, x, htv, t1, t2, t3, t4⟩
          · subst hnil
            go_wp2
            go_ret
            exact ⟨false, rfl, HGr.out, HBt.out⟩
          · subst htv
            unfold maxLen at t2
            by_cases n0 : 0 < tn
            · have y := t3 n0
              have HLd : Hid (∀ o', (o' = tof + 1 ∨ tn = 1) → Left wr (.slice (some ⟨tbk, o', none⟩) (tn - 1) (tc - 1))) := fun o' ho => t4 o' ho n0
              clear t3 t4
              have zn : ((tn : Int) == 0) = false := by simp; omega
              by_cases cx : (x : Int) = (want.length : Int)
              · have cx' : ((x : Int) != (want.length : Int)) = false := by simpa using cx
                have s1 : (1 : Int) ≤ (tn : Int) := by omega
                clear cx
                have HLz : Hid (tc = 1 → Left wr (.slice (some ⟨tbk, tof, none⟩) 0 0)) := fun q => by
                  have q2 := HLd.out tof (Or.inr (by omega))
                  have e1 : tn - 1 = 0 := by omega
                  have e2 : tc - 1 = 0 := by omega
                  rw [e1, e2] at q2
                  exact q2
                obtain ⟨w5, hw5⟩ : ∃ w5 : World, w5 = wr := ⟨_, rfl⟩
                rw [← hw5] at hN hS hB hBs HGr d0 HL HBt y HLd HLz ⊢
                clear hw5 wr
                by_cases hcap : tc = 1
                · have htn : tn = 1 := by omega
                  subst hcap htn
                  go_wp2_with fail
                  go_loopw [1, 7, 89] (fun a b c wr => ∃ m k2 : Nat, m ≤ want.length ∧ c = .int .i64 m ∧ k2 ≤ N + m ∧ Hid (Left wr a) ∧ Hid (GrowS wr w1.heap.size b k2) ∧ Hid (NumsAt wr w1.heap.size (.slice wp want.length wc) want) ∧ Hid (Below w1.heap.size w1 wr)) (fun _ _ c _ => want.length - (intOf c).toNat)
                  case atStart => exact ⟨0, k, by omega, rfl, by omega, HLz.out trivial, hS, hN, hB⟩
                  case round =>
                    clear hS HLd HLz y d0 hN hB hBs
                    obtain ⟨m, k2, hm, rfl, hk2, hLr, hSr, hNr, HB1r⟩ := hrel
                    have hB1s := HB1r.out.size
                    have HGx := hid (hG.out.below HB1r.out)
                    have HBx : Hid (But (fun k => k = tb) w wr) := hBt.out.trans (But.of (S := fun k => k = tb) HB1r.out) (fun _ _ q => q)
                    by_cases cm : m < want.length
                    · have cm' : (m : Int) < (want.length : Int) := by omega
                      obtain ⟨gb, gc, hgp, _, _, hgl, hgm, _, hgd⟩ := hNr.out.at_ (by omega)
                      simp only [Value.slice.injEq, true_and] at hgp
                      obtain ⟨rfl, rfl⟩ := hgp
                      have d := hgd m cm
                      clear hgd
                      have xN : want[m]?.getD 0 < N := hW.out _ (by rw [get_eq cm]; exact List.getElem_mem cm)
                      obtain ⟨y, hy⟩ : ∃ y, y = want[m]?.getD 0 := ⟨_, rfl⟩
                      rw [← hy] at d xN
                      clear hy
                      unfold maxLen at hgm
                      go_wp2_with fail
                      obtain ⟨ts, hts1, hts2⟩ := hLr.out
                      refine (walk_any wr g N es ev tb nt tcap pr HGx.out i y (by omega) xN _ ts hts1 hts2 hes).mono ?_
                      rintro e w6 ⟨lp, ln, lc, v2, ok, rfl, hok, hb6⟩
                      have HB6 : Hid (Below w1.heap.size w1 w6) := HB1r.out.trans (hb6.mono hB1s)
                      have HN6 := hid (hNr.out.below hb6 (Nat.le_refl _))
                      have HG6 := hid (HGx.out.below hb6)
                      have HT6 : Hid (But (fun k => k = tb) w w6) := HBx.out.trans (But.of (S := fun k => k = tb) hb6) (fun _ _ q => q)
                      have hb6s := hb6.size
                      cases ok
                      · clear hok hb6 hts1 hts2 d
                        go_wp2
                        go_ret
                        exact ⟨false, rfl, HG6.out, HT6.out⟩
                      · obtain ⟨kk, hI⟩ := hok rfl
                        have HL6 : Hid (Left w6 v2) := ⟨ts.drop kk, hI, fun n hn => hts2 n (List.mem_of_mem_drop hn)⟩
                        obtain ⟨xs, hxs⟩ := hSr.out.below hb6 (Nat.le_refl _)
                        have HXs := hid hxs
                        have HM : Hid (k2 + 1 ≤ maxLen) := by show _ ≤ _; unfold maxLen; omega
                        clear hok hb6 hts1 hts2 d hI hxs
                        go_wp2_with (at_builtin; refine wpList_append_own _ rfl (.tmp 104) (.tmp 106) 95 rfl w1.heap.size 71 i71 (.slice none 0 0) 1 24 Try.underlying95 p0 p1 p2 p3 rfl (by decide) _ k2 xs rfl (HXs.out.alloc _) ⟨w6.heap.size, 0, none⟩ 1 1 [.slice lp ln lc] rfl rfl (one_cell w6 _ _) (fun y hy => by simp at hy; subst hy; rfl) HM.out (by omega) (by simp; omega) ?_; intro v' w7 ho hg _)
                        have R1 : Left w7 v2 := (HL6.out.below ((Below.refl _ _).alloc (Nat.le_refl _) _)).grown hg (owns_not (HXs.out.alloc _) (by decide))
                        have R2 : Below w1.heap.size w1 w7 := (HB6.out.alloc (by omega) _).grown hg (by simp; omega) (fun k hk => (HXs.out.lt k hk).1)
                        have R3 := (HN6.out.below ((Below.refl _ _).alloc (Nat.le_refl _) _) (Nat.le_refl _)).grown hg (owns_not (HXs.out.alloc _) (by decide))
                        exact ⟨⟨m + 1, k2 + 1, by omega, by go_num, by omega, R1, ⟨_, ho⟩, R3, R2⟩, by simp [intOf]; omega⟩
                    · have cm' : ¬ (m : Int) < (want.length : Int) := by omega
                      have e2 := HGx.out.c2
                      obtain ⟨tv0, e3⟩ := HGx.out.cT i ci
                      have e4 := HGx.out.frT
                      obtain ⟨xs, hxs⟩ := hSr.out
                      obtain ⟨sp, sn, sc, hsv⟩ := owns_form hxs
                      clear hxs
                      subst hsv
                      go_wp2
                      exact ⟨⟨i + 1, by omega, by go_num, hLr.out.set HGx.out.tyT (by decide) _ _, HGx.out.set _ _, HBx.out.trans (But.setCell _ _ _) (fun _ _ q => q)⟩, by simp [intOf]; omega⟩
                · go_wp2_with fail
                  go_loopw [1, 7, 89] (fun a b c wr => ∃ m k2 : Nat, m ≤ want.length ∧ c = .int .i64 m ∧ k2 ≤ N + m ∧ Hid (Left wr a) ∧ Hid (GrowS wr w1.heap.size b k2) ∧ Hid (NumsAt wr w1.heap.size (.slice wp want.length wc) want) ∧ Hid (Below w1.heap.size w1 wr)) (fun _ _ c _ => want.length - (intOf c).toNat)
                  case atStart => exact ⟨0, k, by omega, rfl, by omega, HLd.out _ (Or.inl rfl), hS, hN, hB⟩
                  case round =>
                    clear hS HLd HLz y d0 hN hB hBs
                    obtain ⟨m, k2, hm, rfl, hk2, hLr, hSr, hNr, HB1r⟩ := hrel
                    have hB1s := HB1r.out.size
                    have HGx := hid (hG.out.below HB1r.out)
                    have HBx : Hid (But (fun k => k = tb) w wr) := hBt.out.trans (But.of (S := fun k => k = tb) HB1r.out) (fun _ _ q => q)
                    by_cases cm : m < want.length
                    · have cm' : (m : Int) < (want.length : Int) := by omega
                      obtain ⟨gb, gc, hgp, _, _, hgl, hgm, _, hgd⟩ := hNr.out.at_ (by omega)
                      simp only [Value.slice.injEq, true_and] at hgp
                      obtain ⟨rfl, rfl⟩ := hgp
                      have d := hgd m cm
                      clear hgd
                      have xN : want[m]?.getD 0 < N := hW.out _ (by rw [get_eq cm]; exact List.getElem_mem cm)
                      obtain ⟨y, hy⟩ : ∃ y, y = want[m]?.getD 0 := ⟨_, rfl⟩
                      rw [← hy] at d xN
                      clear hy
                      unfold maxLen at hgm
                      go_wp2_with fail
                      obtain ⟨ts, hts1, hts2⟩ := hLr.out
                      refine (walk_any wr g N es ev tb nt tcap pr HGx.out i y (by omega) xN _ ts hts1 hts2 hes).mono ?_
                      rintro e w6 ⟨lp, ln, lc, v2, ok, rfl, hok, hb6⟩
                      have HB6 : Hid (Below w1.heap.size w1 w6) := HB1r.out.trans (hb6.mono hB1s)
                      have HN6 := hid (hNr.out.below hb6 (Nat.le_refl _))
                      have HG6 := hid (HGx.out.below hb6)
                      have HT6 : Hid (But (fun k => k = tb) w w6) := HBx.out.trans (But.of (S := fun k => k = tb) hb6) (fun _ _ q => q)
                      have hb6s := hb6.size
                      cases ok
                      · clear hok hb6 hts1 hts2 d
                        go_wp2
                        go_ret
                        exact ⟨false, rfl, HG6.out, HT6.out⟩
                      · obtain ⟨kk, hI⟩ := hok rfl
                        have HL6 : Hid (Left w6 v2) := ⟨ts.drop kk, hI, fun n hn => hts2 n (List.mem_of_mem_drop hn)⟩
                        obtain ⟨xs, hxs⟩ := hSr.out.below hb6 (Nat.le_refl _)
                        have HXs := hid hxs
                        have HM : Hid (k2 + 1 ≤ maxLen) := by show _ ≤ _; unfold maxLen; omega
                        clear hok hb6 hts1 hts2 d hI hxs
                        go_wp2_with (at_builtin; refine wpList_append_own _ rfl (.tmp 104) (.tmp 106) 95 rfl w1.heap.size 71 i71 (.slice none 0 0) 1 24 Try.underlying95 p0 p1 p2 p3 rfl (by decide) _ k2 xs rfl (HXs.out.alloc _) ⟨w6.heap.size, 0, none⟩ 1 1 [.slice lp ln lc] rfl rfl (one_cell w6 _ _) (fun y hy => by simp at hy; subst hy; rfl) HM.out (by omega) (by simp; omega) ?_; intro v' w7 ho hg _)
                        have R1 : Left w7 v2 := (HL6.out.below ((Below.refl _ _).alloc (Nat.le_refl _) _)).grown hg (owns_not (HXs.out.alloc _) (by decide))
                        have R2 : Below w1.heap.size w1 w7 := (HB6.out.alloc (by omega) _).grown hg (by simp; omega) (fun k hk => (HXs.out.lt k hk).1)
                        have R3 := (HN6.out.below ((Below.refl _ _).alloc (Nat.le_refl _) _) (Nat.le_refl _)).grown hg (owns_not (HXs.out.alloc _) (by decide))
                        exact ⟨⟨m + 1, k2 + 1, by omega, by go_num, by omega, R1, ⟨_, ho⟩, R3, R2⟩, by simp [intOf]; omega⟩
                    · have cm' : ¬ (m : Int) < (want.length : Int) := by omega
                      have e2 := HGx.out.c2
                      obtain ⟨tv0, e3⟩ := HGx.out.cT i ci
                      have e4 := HGx.out.frT
                      obtain ⟨xs, hxs⟩ := hSr.out
                      obtain ⟨sp, sn, sc, hsv⟩ := owns_form hxs
                      clear hxs
                      subst hsv
                      go_wp2
                      exact ⟨⟨i + 1, by omega, by go_num, hLr.out.set HGx.out.tyT (by decide) _ _, HGx.out.set _ _, HBx.out.trans (But.setCell _ _ _) (fun _ _ q => q)⟩, by simp [intOf]; omega⟩
              · have cx' : ((x : Int) != (want.length : Int)) = true := by simpa using cx
                go_wp2
                go_ret
                exact ⟨false, rfl, HGr.out, HBt.out⟩
            · have hn0 : tn = 0 := by omega
              subst hn0
              go_wp2
              go_ret
              exact ⟨false, rfl, HGr.out, HBt.out⟩
    · have ci' : ¬ (i : Int) < (nt : Int) := by omega
      obtain ⟨lp, ln, lc, hlv⟩ := hL.out.len
      subst hlv
      go_wp2
      go_ret
      exact ⟨_, rfl, hG.out, hBt.out⟩

end Go.Proofs.Ytnmdcogckkkfaaa
namespace Go.Proofs.Ytnmdcogckkkfaaa
set_option linter.unusedVariables false
set_option linter.unusedSimpArgs false
open Go.RowKit

theorem TextsAt.at_ {w : World} {B m : Nat} {v : Value} {l : List ByteArray} (h : TextsAt w B v l m) (hl : l.length = 3) : ∃ g c t0 t1 t2, v = .slice (some ⟨g, 0, none⟩) 3 c ∧ g < w.heap.size ∧ 3 ≤ c ∧ c ≤ maxLen ∧ (w.cell? ⟨g, 0, none⟩ = some (.string t0) ∧ w.cell? ⟨g, 1, none⟩ = some (.string t1) ∧ w.cell? ⟨g, 2, none⟩ = some (.string t2)) ∧ t0.size ≤ m ∧ t1.size ≤ m ∧ t2.size ≤ m := by
  obtain ⟨t0, t1, t2, rfl⟩ : ∃ a b c, l = [a, b, c] := by
    match l, hl with
    | [a, b, c], _ => exact ⟨a, b, c, rfl⟩
  rcases h.1.2 with ⟨_, h2⟩ | ⟨g, cap, cur, h1, hB, h3, h4, h5, _, h7⟩
  · simp at h2
  · have cell : ∀ j (y : Value), ([t0, t1, t2].map Value.string)[j]? = some y → w.cell? ⟨g, j, none⟩ = some y := fun j y hy => by
      have := h.1.cells (g := g) (by rw [h1]; rfl) j y hy
      rw [addr_add, Nat.zero_add] at this
      exact this
    exact ⟨g, cap, t0, t1, t2, h1, (Array.getElem?_eq_some_iff.1 h3).1, h4, h5, ⟨cell 0 _ rfl, cell 1 _ rfl, cell 2 _ rfl⟩, h.2 t0 (by simp), h.2 t1 (by simp), h.2 t2 (by simp)⟩

/-- What Read answers: some graph, some error; nothing that was there has turned. -/
def ReadR (w : World) (e : Ending) (w' : World) : Prop := ∃ (p : Option Addr) (n : Int), e = .returned (.tuple #[.pointer p, .int .i64 n]) ∧ Below w.heap.size w w'

/-- The slice of numbers, as Read sees it. -/
theorem nums_form {w : World} {B : Nat} {v : Value} {l : List Nat} (h : NumsAt w B v l) : ∃ p c, v = .slice p l.length c ∧ (0 < l.length → ∃ g, p = some ⟨g, 0, none⟩ ∧ l.length ≤ c ∧ c ≤ maxLen ∧ g < w.heap.size ∧ ∀ j, j < l.length → w.cell? ⟨g, j, none⟩ = some (.int .i64 ((l[j]?.getD 0 : Nat) : Int))) := by
  by_cases hl : 0 < l.length
  · obtain ⟨g, c, h1, h2, _, h4, h5, _, h7⟩ := h.at_ hl
    exact ⟨_, _, h1, fun _ => ⟨g, rfl, h4, h5, h2, h7⟩⟩
  · rcases h.1.2 with ⟨q, q2⟩ | ⟨gb, cap, cur, q, _⟩
    · exact ⟨none, 0, by rw [q, q2], fun q => absurd q hl⟩
    · exact ⟨_, _, q, fun q => absurd q hl⟩

theorem butR {w wx w3 : World} {row : Option Nat} (b : Below w.heap.size w wx) (g : wx.grownBy w3 row) : But (fun k => some k = row) w w3 := (But.of b).trans (But.grown g) (fun _ _ q => q)

theorem edge_cells4 (w : World) (a b l : Int) (t : Bool) (j : Nat) (y : Value) (h : (eCells [⟨a, b, l, t⟩])[j]? = some y) : (w.alloc (.cells #[.int .i64 a, .int .i64 b, .int .i64 l, .bool t] 101)).cell? ((⟨w.heap.size, 0, none⟩ : Addr).add j) = some y := by
  rw [addr_add, Nat.zero_add, new_cell]
  simpa [eCells, Edg.cells] using h

theorem edge_drew (w : World) (a b l : Int) (t : Bool) (j : Nat) (y : Value) (h : (eCells [⟨a, b, l, t⟩])[j]? = some y) : (w.alloc (.cells #[.int .i64 a, .int .i64 b, .int .i64 l, .bool t] 101)).drew.cell? ((⟨w.heap.size, 0, none⟩ : Addr).add j) = some y := edge_cells4 w a b l t j y h

/-- An edge more, in a graph of which the tours are not known. -/
theorem GW.app {w w2 : World} {g N : Nat} {es : List Edg} {ev v2 : Value} {tb nt tcap B : Nat} {pr : Int} {e : Edg} (h : GW w g N es ev tb nt tcap pr) (hb : But (fun k => ev.ownBlock = some k) w w2)
    (ho : w2.ownsRow B 101 4 v2 (es.length + 1) (eCells es ++ eCells [e])) (he : (0 ≤ e.u ∧ e.u < N) ∧ (0 ≤ e.v ∧ e.v < N)) :
    GW (w2.setCell ⟨g, 1, none⟩ v2) g N (es ++ [e]) v2 tb nt tcap pr ∧ (w2.setCell ⟨g, 1, none⟩ v2).ownsRow B 101 4 v2 (es ++ [e]).length (eCells (es ++ [e])) := by
  obtain ⟨F, hF⟩ := h.rt
  have n1 := fun k (hk : ev.ownBlock = some k) => h.ed.notIn (rowIs_ty h.rg) (by decide) k hk
  have n2 := fun k (hk : ev.ownBlock = some k) => h.ed.notIn (rowIs_ty hF) (by decide) k hk
  have r2 := row_but h.rg hb (fun q => n1 g q rfl)
  have t2 := row_but hF hb (fun q => n2 tb q rfl)
  have bs := But.setCell w2 ⟨g, 1, none⟩ v2
  have ho2 : (w2.setCell ⟨g, 1, none⟩ v2).ownsRow B 101 4 v2 (es ++ [e]).length (eCells (es ++ [e])) := by
    rw [List.length_append, eCells_append]
    exact owns_set_other ho (rowIs_ty r2) (by decide) _ _
  refine ⟨⟨(r2.set 1 v2).congr ?_, (edges_of_owns ho2 rfl).1, ⟨F, row_but t2 bs (fun q => h.gtb q.symm)⟩, h.tl, h.tm, h.n1, h.n48, fun f hf => ?_, h.nt6⟩, ho2⟩
  · intro i hi
    simp only [gf]
    by_cases q : i = 1
    · subst q; simp
    · simp [q]
  · rcases List.mem_append.1 hf with q | q
    · exact h.inr f q
    · simp at q; subst q; exact he

set_option maxRecDepth 100000 in
set_option maxHeartbeats 16000000 in
theorem Read_any (w : World) (s : ByteArray) (hs : s.size ≤ 2 ^ 40) : Calls Try.prog 32 #[.string s] w (ReadR w) := by
  obtain ⟨i93, p0, p1, p2, p3⟩ := info_parts Try.info101
  go_enter Try.func32, Try.ntmps32
  by_cases c1 : (32768 : Int) < (s.size : Int)
  · go_wp2
    go_ret2
    exact ⟨none, _, rfl, Below.refl _ _⟩
  · by_cases c2 : (s.size : Int) < 4
    · go_wp2
      go_ret2
      exact ⟨none, _, rfl, Below.refl _ _⟩
    · have c3 : (4 : Int) ≤ (s.size : Int) := by omega
      cases c4 : (!(s.extract 0 4).toList == [72, 68, 84, 49])
      · have HSz : Hid ((s.extract 4 s.size).size ≤ 2 ^ 16) := by show _ ≤ _; rw [ByteArray.size_extract]; omega
        go_wp2_with fail
        refine (parts_any w (s.extract 4 s.size) (by have := HSz.out; omega)).mono ?_
        rintro e w1 ⟨v, ok, rfl, hl, hb1⟩
        have HB1 := hid hb1
        clear hb1 c4
        cases ok
        · clear hl
          go_wp2
          go_ret2
          exact ⟨none, _, rfl, HB1.out⟩
        · obtain ⟨l, hl, hl3⟩ := hl rfl
          obtain ⟨lg, lc, t0, t1, t2, hlv, hlg, hlc, hlm, ⟨d0, d1, d2⟩, z0, z1, z2⟩ := hl.at_ hl3
          subst hlv
          unfold maxLen at hlm
          have HZ0 : Hid (t0.size ≤ 2 ^ 16) := Nat.le_trans z0 HSz.out
          have HZ1 : Hid (t1.size ≤ 2 ^ 16) := Nat.le_trans z1 HSz.out
          have HZ2 : Hid (t2.size ≤ 2 ^ 16) := Nat.le_trans z2 HSz.out
          have HD := hid (And.intro d0 (And.intro d1 d2))
          clear hl hl3 z0 z1 z2 d1 d2
          go_wp2_with fail
          refine (numbers_any w1 t0 (by have := HZ0.out; omega)).mono ?_
          rintro e w2 ⟨v0, ok0, rfl, h0, hb2⟩
          have HB2 : Hid (Below w1.heap.size w1 w2) := hb2
          have d1 : w2.cell? ⟨lg, 1, none⟩ = some (.string t1) := (hb2.cell (p := ⟨lg, 1, none⟩) hlg).trans HD.out.2.1
          have HR0 := hid h0
          have hs2 := hb2.size
          clear h0 hb2 d0
          go_wp2_with fail
          refine (numbers_any w2 t1 (by have := HZ1.out; omega)).mono ?_
          rintro e w3 ⟨v1, ok1, rfl, h1, hb3⟩
          have HB3 : Hid (Below w1.heap.size w1 w3) := HB2.out.trans (hb3.mono hs2)
          have HBw3 : Hid (Below w.heap.size w w3) := HB1.out.trans (HB3.out.mono HB1.out.size)
          cases ok0
          · have hv0 : v0 = .slice none 0 0 := by
              rcases HR0.out with q | q
              · exact q.2
              · exact absurd q.1 (by simp)
            subst hv0
            clear h1 hb3 d1
            go_wp2
            go_ret2
            exact ⟨none, _, rfl, HBw3.out⟩
          · cases ok1
            · clear h1 hb3 d1
              go_wp2
              go_ret2
              exact ⟨none, _, rfl, HBw3.out⟩
            · obtain ⟨ns, hn0, _⟩ : ∃ l, NumsAt w2 w1.heap.size v0 l ∧ l.length ≤ t0.size := by
                rcases HR0.out with q | q
                · exact absurd q.1 (by simp)
                · exact q.2
              obtain ⟨ms, hm0, hml⟩ : ∃ l, NumsAt w3 w2.heap.size v1 l ∧ l.length ≤ t1.size := by
                rcases h1 with q | q
                · exact absurd q.1 (by simp)
                · exact q.2
              have hml2 : ms.length ≤ 2 ^ 16 := Nat.le_trans hml HZ1.out
              have hn1 := hn0.below hb3 (Nat.le_refl _)
              have HMb := hid hm0.2
              have HNb := hid hn1.2
              obtain ⟨np, nc, hnv, hnc⟩ := nums_form hn1
              obtain ⟨mp, mc, hmv, hmc⟩ := nums_form hm0
              subst hnv hmv
              have HNc := hid hnc
              have HMc := hid hmc
              clear hn0 hm0 hn1 hnc hmc h1 hb3 d1 hml HR0
              obtain ⟨x0, hx0⟩ : ∃ x0, x0 = ns[0]?.getD 0 := ⟨_, rfl⟩
              obtain ⟨y0, hy0⟩ : ∃ y0, y0 = ms[0]?.getD 0 := ⟨_, rfl⟩
              have HX0 := hid hx0
              have HY0 := hid hy0
              clear hx0 hy0
              have HNs : Hid (0 < ns.length → ∃ ng, np = some ⟨ng, 0, none⟩ ∧ ns.length ≤ nc ∧ nc ≤ maxLen ∧ w3.cell? ⟨ng, 0, none⟩ = some (.int .i64 (x0 : Int)) ∧ x0 < 2 ^ 28) := fun q => by
                obtain ⟨ng, e1, e2, e3, _, e4⟩ := HNc.out q
                exact ⟨ng, e1, e2, e3, by rw [HX0.out]; exact e4 0 q, by rw [HX0.out]; exact HNb.out _ (by rw [get_eq q]; exact List.getElem_mem _)⟩
              have HMs : Hid (0 < ms.length → ∃ mg, mp = some ⟨mg, 0, none⟩ ∧ ms.length ≤ mc ∧ mc ≤ maxLen ∧ mg < w3.heap.size ∧ w3.cell? ⟨mg, 0, none⟩ = some (.int .i64 (y0 : Int)) ∧ y0 < 2 ^ 28 ∧ ∀ j, j < ms.length → w3.cell? ⟨mg, j, none⟩ = some (.int .i64 ((ms[j]?.getD 0 : Nat) : Int))) := fun q => by
                obtain ⟨mg, e1, e2, e3, e5, e4⟩ := HMc.out q
                exact ⟨mg, e1, e2, e3, e5, by rw [HY0.out]; exact e4 0 q, by rw [HY0.out]; exact HMb.out _ (by rw [get_eq q]; exact List.getElem_mem _), e4⟩
              clear HNc HMc
              go_upto_region 10 with fail
              go_cut [85] from 15 (fun x wx => ∃ bd : Bool, x = .bool bd ∧ (bd = false → ns.length = 1 ∧ 1 ≤ x0 ∧ x0 ≤ 48 ∧ 0 < ms.length ∧ ms.length = 1 + 3 * y0) ∧ wx = w3)
              case first =>
                by_cases k1 : (ns.length : Int) = 1
                · have k1' : ((ns.length : Int) != 1) = false := by simpa using k1
                  have HK1 : Hid (ns.length = 1) := by show _ = _; omega
                  have ln1 : 0 < ns.length := by omega
                  obtain ⟨ng, hnp, n1, n2, e0, eb⟩ := HNs.out ln1
                  subst hnp
                  unfold maxLen at n2
                  clear k1
                  by_cases k2 : (x0 : Int) < 1
                  · go_wp2
                    go_meet
                    case rel => exact ⟨true, rfl, fun q => by simp at q, rfl⟩
                  · by_cases k3 : (48 : Int) < (x0 : Int)
                    · go_wp2
                      go_meet
                      case rel => exact ⟨true, rfl, fun q => by simp at q, rfl⟩
                    · by_cases k4 : (ms.length : Int) = 0
                      · have k4' : ((ms.length : Int) == 0) = true := by simpa using k4
                        clear k4
                        go_wp2
                        go_meet
                        case rel => exact ⟨true, rfl, fun q => by simp at q, rfl⟩
                      · have k4' : ((ms.length : Int) == 0) = false := by simpa using k4
                        have lm1 : 0 < ms.length := by omega
                        obtain ⟨mg, hmp, m1, m2, m3, f0, fb, _⟩ := HMs.out lm1
                        subst hmp
                        unfold maxLen at m2
                        clear k4
                        by_cases k5 : (ms.length : Int) = 1 + 3 * (y0 : Int)
                        · have k5' : ((ms.length : Int) != 1 + 3 * (y0 : Int)) = false := by simpa using k5
                          have HK5 : Hid (ms.length = 1 + 3 * y0) := by show _ = _; omega
                          clear k5
                          go_wp2
                          go_meet
                          case rel => exact ⟨false, rfl, fun _ => ⟨HK1.out, by omega, by omega, lm1, HK5.out⟩, rfl⟩
                        · have k5' : ((ms.length : Int) != 1 + 3 * (y0 : Int)) = true := by simpa using k5
                          clear k5
                          go_wp2
                          go_meet
                          case rel => exact ⟨true, rfl, fun q => by simp at q, rfl⟩
                · have k1' : ((ns.length : Int) != 1) = true := by simpa using k1
                  clear k1
                  go_wp2
                  go_meet
                  case rel => exact ⟨true, rfl, fun q => by simp at q, rfl⟩
              case rest =>
                obtain ⟨bd, rfl, hbd, hw⟩ := hcut
                replace hw := hw.symm
                subst hw
                cases bd
                · obtain ⟨z1, z2, z3, z4, z5⟩ := hbd rfl
                  have ln1 : 0 < ns.length := by omega
                  obtain ⟨ng, hnp, n1, n2, e0, eb⟩ := HNs.out ln1
                  obtain ⟨mg, hmp, m1, m2, m3, f0, fb, m4⟩ := HMs.out z4
                  subst hnp hmp
                  unfold maxLen at n2 m2
                  have K5 : Hid ((ms.length : Int) = 1 + 3 * (y0 : Int)) := by show _ = _; omega
                  have HM4 := hid m4
                  clear z1 z5 m4 hbd
                  go_wp2_with fail
                  refine (New_any w3 x0 (by omega) (by omega)).mono ?_
                  rintro e w4 ⟨g, tb, tcap, F, rfl, hg1, hg2, hG, hb4⟩
                  obtain ⟨nt, hnt⟩ : ∃ nt, nt = (newG x0).tours.length := ⟨_, rfl⟩
                  have HG4 : Hid (GW w4 g x0 [] (.slice none 0 0) tb nt tcap 0) := by
                    have := hG.weak (newG_ok (n := x0) (by omega) (by omega)).1
                    rw [hnt]; exact this
                  have HB4 : Hid (Below w3.heap.size w3 w4) := hb4
                  have HMw : Hid (∀ w', Below w3.heap.size w3 w' → ∀ j, j < ms.length → w'.cell? ⟨mg, j, none⟩ = some (.int .i64 ((ms[j]?.getD 0 : Nat) : Int))) := fun w' hb j hj => by rw [hb.cell (p := ⟨mg, j, none⟩) m3]; exact HM4.out j hj
                  have HDw : Hid (∀ w', Below w3.heap.size w3 w' → w'.cell? ⟨lg, 2, none⟩ = some (.string t2)) := fun w' hb => by
                    have hs3 := HB3.out.size
                    rw [hb.cell (p := ⟨lg, 2, none⟩) (by show lg < _; omega), HB3.out.cell (p := ⟨lg, 2, none⟩) hlg]; exact HD.out.2.2
                  clear hG hb4 hnt e0 f0
                  go_wp2_with fail
                  go_loopw [11, 12] (fun a c wr => ∃ (z : Int) (kk : Nat) (es : List Edg) (ev : Value), a = .int .i64 z ∧ c = .int .i64 kk ∧ kk ≤ ms.length ∧ Hid (∃ j, kk = 1 + 3 * j ∧ es.length ≤ j) ∧ Hid (GW wr g x0 es ev tb nt tcap 0) ∧ Hid (wr.ownsRow w3.heap.size 101 4 ev es.length (eCells es)) ∧ Hid (Below w3.heap.size w3 wr)) (fun _ c _ => ms.length - (intOf c).toNat)
                  case atStart => exact ⟨-1, 1, [], .slice none 0 0, rfl, rfl, by omega, ⟨0, rfl, by simp⟩, HG4, World.ownsRow_nil _ _ _ _, HB4⟩
                  case round =>
                    clear HG4 HB4
                    obtain ⟨z, kk, es, ev, rfl, rfl, hkk, hJ, hG, hEo, hB⟩ := hrel
                    have hBs := hB.out.size
                    by_cases ck : kk < ms.length
                    · have ck' : (kk : Int) < (ms.length : Int) := by omega
                      have hk2 : kk + 2 < ms.length := by
                        obtain ⟨j, hj, _⟩ := hJ.out
                        have := K5.out
                        omega
                      have a0 := HMw.out wr hB.out kk ck
                      have a1 := HMw.out wr hB.out (kk + 1) (by omega)
                      have a2 := HMw.out wr hB.out (kk + 2) hk2
                      have b0 := HMb.out (ms[kk]?.getD 0) (by rw [get_eq ck]; exact List.getElem_mem _)
                      have b1 := HMb.out (ms[kk + 1]?.getD 0) (by rw [get_eq (show kk + 1 < ms.length by omega)]; exact List.getElem_mem _)
                      have b2 := HMb.out (ms[kk + 2]?.getD 0) (by rw [get_eq hk2]; exact List.getElem_mem _)
                      generalize ms[kk]?.getD 0 = xu at a0 b0
                      generalize ms[kk + 1]?.getD 0 = xv at a1 b1
                      generalize ms[kk + 2]?.getD 0 = xl at a2 b2
                      have i1 : (kk : Int) + 1 < (ms.length : Int) := by omega
                      have i2 : (kk : Int) + 2 < (ms.length : Int) := by omega
                      have j1 : ((kk : Int) + 1).toNat = kk + 1 := by omega
                      have j2 : ((kk : Int) + 2).toNat = kk + 2 := by omega
                      have l1 : (0 : Int) ≤ (kk : Int) + 1 := by omega
                      have l2 : (0 : Int) ≤ (kk : Int) + 2 := by omega
                      obtain ⟨wo, hwo⟩ : ∃ wo : World, wo = wr := ⟨_, rfl⟩
                      rw [← hwo] at hG hB hBs hEo a0 a1 a2 ⊢
                      clear hwo wr
                      have hmgo : mg < wo.heap.size := by omega
                      have A0 : ∀ o, (wo.alloc o).cell? ⟨mg, kk, none⟩ = some (.int .i64 xu) := fun o => by rw [((Below.refl wo.heap.size wo).alloc (Nat.le_refl _) o).cell (p := ⟨mg, kk, none⟩) hmgo]; exact a0
                      have A1 : ∀ o, (wo.alloc o).cell? ⟨mg, kk + 1, none⟩ = some (.int .i64 xv) := fun o => by rw [((Below.refl wo.heap.size wo).alloc (Nat.le_refl _) o).cell (p := ⟨mg, kk + 1, none⟩) hmgo]; exact a1
                      have A2 : ∀ o, (wo.alloc o).cell? ⟨mg, kk + 2, none⟩ = some (.int .i64 xl) := fun o => by rw [((Below.refl wo.heap.size wo).alloc (Nat.le_refl _) o).cell (p := ⟨mg, kk + 2, none⟩) hmgo]; exact a2
                      have W1 : IntKind.i64.wrap ((kk : Int) + 1) = (kk : Int) + 1 := by rw [IntKind.wrap_i64]; omega
                      have W2 : IntKind.i64.wrap ((kk : Int) + 2) = (kk : Int) + 2 := by rw [IntKind.wrap_i64]; omega
                      have HJ1 : Hid (∃ j, kk + 3 = 1 + 3 * j ∧ es.length + 1 ≤ j) := by
                        obtain ⟨j, hj, hl⟩ := hJ.out
                        exact ⟨j + 1, by omega, by omega⟩
                      have hesl : es.length ≤ 100000 := by
                        obtain ⟨j, hj, hl⟩ := hJ.out
                        omega
                      have HWo : Hid (w3.heap.size ≤ wo.heap.size) := hBs
                      go_wp2_with fail
                      go_cut [13] from 96 to 118 (fun x wx => ∃ (eb : Nat) (lv : Int) (tr : Bool), x = ptr eb ∧ w3.heap.size ≤ eb ∧ eb < wx.heap.size ∧ Hid (∀ j, wx.cell? ⟨eb, j, none⟩ = #[Value.int .i64 xu, .int .i64 xv, .int .i64 lv, .bool tr][j]?) ∧ Hid (Below wo.heap.size wo wx))
                      case first =>
                        rename_i hmet
                        revert hmet
                        go_light
                        intro hmet
                        go_region_held (fun w' => w'.cell? ⟨mg, kk, none⟩ = some (.int .i64 xu) ∧ w'.cell? ⟨mg, kk + 1, none⟩ = some (.int .i64 xv) ∧ w'.cell? ⟨mg, kk + 2, none⟩ = some (.int .i64 xl)) (first | exact ⟨a0, a1, a2⟩ | exact ⟨A0 _, A1 _, A2 _⟩ | exact ⟨by assumption, by assumption, by assumption⟩) (fail)
                        all_goals
                          go_wp2
                          go_meet
                          case rel => exact ⟨wo.heap.size, _, _, rfl, HWo.out, by show _ < (wo.alloc _).heap.size; simp, fun j => new_cell wo _ _ j, ((Below.refl _ _).alloc (Nat.le_refl _) _).drew⟩
                      case rest =>
                      obtain ⟨eb, lv, tr, rfl, hebg, hebl, HC, HB8⟩ := hcut
                      obtain ⟨w8, hw8⟩ : ∃ w8 : World, w8 = wc := ⟨_, rfl⟩
                      rw [← hw8] at HC HB8 hebl ⊢
                      clear hw8 wc
                      have HG8 := hid (hG.out.below HB8.out)
                      have HO8 := hid (owns_below hEo.out HB8.out (Nat.le_refl _))
                      have HB38 : Hid (Below w3.heap.size w3 w8) := hB.out.trans (HB8.out.mono hBs)
                      have hBs8 := HB38.out.size
                      clear A0 A1 A2 W1 W2 a0 a1 a2 b2 i1 i2 j1 j2 l1 l2 hG hEo hmgo
                      have d0 := HG8.out.c0
                      have z0 := HC.out 0
                      have z1 := HC.out 1
                      have z2 := HC.out 2
                      have z3 := HC.out 3
                      simp only [List.getElem?_toArray, List.getElem?_cons_zero, List.getElem?_cons_succ] at z0 z1 z2 z3
                      go_wp2_with fail
                      go_cut [156] from 90 to 156 (fun x wx => ∃ bd : Bool, x = .bool bd ∧ (bd = false → xu < xv ∧ xv < x0) ∧ Hid (Below w8.heap.size w8 wx))
                      case first =>
                        rename_i hmet
                        revert hmet
                        go_light
                        intro hmet
                        by_cases e1 : xv ≤ xu
                        · have e1a : decide (xv ≤ xu) = true := by simpa using e1
                          have e1b : decide ((xv : Int) ≤ (xu : Int)) = true := by simpa using e1
                          go_quiet (fail)
                          go_wp2
                          go_meet
                          case rel => exact ⟨true, rfl, fun q => by simp at q, Below.drewN' _ (Below.refl _ _)⟩
                        · have e1a : decide (xv ≤ xu) = false := by simpa using e1
                          have e1b : decide ((xv : Int) ≤ (xu : Int)) = false := by simpa using e1
                          by_cases e2 : x0 ≤ xv
                          · have e2a : decide (x0 ≤ xv) = true := by simpa using e2
                            have e2b : decide ((x0 : Int) ≤ (xv : Int)) = true := by simpa using e2
                            go_quiet (fail)
                            go_wp2
                            go_meet
                            case rel => exact ⟨true, rfl, fun q => by simp at q, Below.drewN' _ (Below.refl _ _)⟩
                          · have e2a : decide (x0 ≤ xv) = false := by simpa using e2
                            have e2b : decide ((x0 : Int) ≤ (xv : Int)) = false := by simpa using e2
                            have HE : Hid (xu < xv ∧ xv < x0) := by show _ ∧ _; omega
                            have mb : (xu : Int) * (x0 : Int) < 2 ^ 40 := by
                              have q1 : xu * x0 ≤ 48 * 48 := Nat.mul_le_mul (by omega) (by omega)
                              have q2 : ((xu * x0 : Nat) : Int) ≤ 48 * 48 := by omega
                              rw [Int.natCast_mul] at q2
                              omega
                            have mb0 : (0 : Int) ≤ (xu : Int) * (x0 : Int) := by
                              have q2 : (0 : Int) ≤ ((xu * x0 : Nat) : Int) := by omega
                              rw [Int.natCast_mul] at q2
                              exact q2
                            by_cases e3 : (xu : Int) * (x0 : Int) + (xv : Int) ≤ z
                            · have e3b : decide ((xu : Int) * (x0 : Int) + (xv : Int) ≤ z) = true := by simpa using e3
                              go_quiet (fail)
                              go_wp2
                              go_meet
                              case rel => exact ⟨true, rfl, fun q => by simp at q, Below.drewN' _ (Below.refl _ _)⟩
                            · have e3b : decide ((xu : Int) * (x0 : Int) + (xv : Int) ≤ z) = false := by simpa using e3
                              go_quiet (first | (go_at_call 54; refine Calls.quiet_of_same (Top_any _ x0 (by omega) (by omega))))
                              go_wp2
                              go_meet
                              case rel => exact ⟨_, rfl, fun _ => HE.out, Below.drewN' _ (Below.refl _ _)⟩
                      case rest =>
                        obtain ⟨bd, rfl, hbd, hB9⟩ := hcut
                        have HB39 : Hid (Below w3.heap.size w3 wc) := HB38.out.trans (hB9.out.mono hBs8)
                        have HBw9 : Hid (Below w.heap.size w wc) := HBw3.out.trans (HB39.out.mono HBw3.out.size)
                        cases bd
                        · have HE := hid (hbd rfl)
                          have HG9 := hid (HG8.out.below hB9.out)
                          have HO9 := hid (owns_below HO8.out hB9.out (Nat.le_refl _))
                          have y0 : wc.cell? ⟨eb, 0, none⟩ = some (.int .i64 xu) := (hB9.out.cell (p := ⟨eb, 0, none⟩) hebl).trans (HC.out 0)
                          have y1 : wc.cell? ⟨eb, 1, none⟩ = some (.int .i64 xv) := (hB9.out.cell (p := ⟨eb, 1, none⟩) hebl).trans (HC.out 1)
                          have y2 : wc.cell? ⟨eb, 2, none⟩ = some (.int .i64 lv) := (hB9.out.cell (p := ⟨eb, 2, none⟩) hebl).trans (HC.out 2)
                          have y3 : wc.cell? ⟨eb, 3, none⟩ = some (.bool tr) := (hB9.out.cell (p := ⟨eb, 3, none⟩) hebl).trans (HC.out 3)
                          have f0 := HG9.out.c0
                          clear hbd z0 z1 z2 z3 d0 HG8 HO8
                          obtain ⟨w9, hw9⟩ : ∃ w9 : World, w9 = wc := ⟨_, rfl⟩
                          rw [← hw9] at hB9 HB39 HBw9 HG9 HO9 y0 y1 y2 y3 f0 ⊢
                          clear hw9 wc
                          have mb : (xu : Int) * (x0 : Int) < 2 ^ 40 := by
                            have q1 : xu * x0 ≤ 48 * 48 := Nat.mul_le_mul (by have := HE.out; omega) (by omega)
                            have q2 : ((xu * x0 : Nat) : Int) ≤ 48 * 48 := by omega
                            rw [Int.natCast_mul] at q2
                            omega
                          have mb0 : (0 : Int) ≤ (xu : Int) * (x0 : Int) := by
                            have q2 : (0 : Int) ≤ ((xu * x0 : Nat) : Int) := by omega
                            rw [Int.natCast_mul] at q2
                            exact q2
                          go_wp2_with fail
                          go_cut [11] from 157 to 166 (fun x wx => ∃ z2 : Int, x = .int .i64 z2 ∧ Hid (Below w9.heap.size w9 wx))
                          case first =>
                            rename_i hmet
                            revert hmet
                            go_light
                            intro hmet
                            go_quiet (fail)
                            go_wp2
                            go_meet
                            case rel => exact ⟨_, rfl, Below.drewN' _ (Below.refl _ _)⟩
                          case rest =>
                            obtain ⟨z2, rfl, hB10⟩ := hcut
                            have HG10 := hid (HG9.out.below hB10.out)
                            have HO10 := hid (owns_below HO9.out hB10.out (Nat.le_refl _))
                            have HB10 : Hid (Below w3.heap.size w3 wc) := HB39.out.trans (hB10.out.mono HB39.out.size)
                            have hs10 := HB10.out.size
                            have heb9 : eb < w9.heap.size := Nat.lt_of_lt_of_le hebl hB9.out.size
                            have x0c : wc.cell? ⟨eb, 0, none⟩ = some (.int .i64 xu) := (hB10.out.cell (p := ⟨eb, 0, none⟩) heb9).trans y0
                            have x1c : wc.cell? ⟨eb, 1, none⟩ = some (.int .i64 xv) := (hB10.out.cell (p := ⟨eb, 1, none⟩) heb9).trans y1
                            have x2c : wc.cell? ⟨eb, 2, none⟩ = some (.int .i64 lv) := (hB10.out.cell (p := ⟨eb, 2, none⟩) heb9).trans y2
                            have x3c : wc.cell? ⟨eb, 3, none⟩ = some (.bool tr) := (hB10.out.cell (p := ⟨eb, 3, none⟩) heb9).trans y3
                            have g1 := HG10.out.c1
                            have G1 := fun o => (HG10.out.below ((Below.refl _ _).alloc (Nat.le_refl _) o)).c1
                            have HBx : Hid (∀ o, Below wc.heap.size wc (wc.alloc o).drew) := fun o => ((Below.refl _ _).alloc (Nat.le_refl _) o).drew
                            have HS : Hid (∀ o, w3.heap.size ≤ (wc.alloc o).drew.heap.size) := fun o => Nat.le_trans hs10 (HBx.out o).size
                            have HM : Hid (es.length + 1 ≤ maxLen) := by show _ ≤ _; unfold maxLen; omega
                            have HEr : Hid ((0 ≤ (xu : Int) ∧ (xu : Int) < x0) ∧ (0 ≤ (xv : Int) ∧ (xv : Int) < x0)) := by have := HE.out; show _ ∧ _; omega
                            have HDn : Hid (∀ wx w11 v', Below wc.heap.size wc wx → w11.ownsRow w3.heap.size 101 4 v' (es.length + 1) (eCells es ++ eCells [(⟨xu, xv, lv, tr⟩ : Edg)]) → wx.grownBy w11 ev.ownBlock → (GW (w11.setCell ⟨g, 1, none⟩ v') g x0 (es ++ [(⟨xu, xv, lv, tr⟩ : Edg)]) v' tb nt tcap 0 ∧ (w11.setCell ⟨g, 1, none⟩ v').ownsRow w3.heap.size 101 4 v' (es ++ [(⟨xu, xv, lv, tr⟩ : Edg)]).length (eCells (es ++ [(⟨xu, xv, lv, tr⟩ : Edg)]))) ∧ Below w3.heap.size w3 (w11.setCell ⟨g, 1, none⟩ v') ∧ w11.rowIs g 63 4 (gf x0 ev tb nt tcap 0)) := by
                              intro wx w11 v' hbx ho hg
                              have bt := (butR hbx hg).wide (S' := fun k => ev.ownBlock = some k) (fun _ _ q => q.symm)
                              refine ⟨HG10.out.app bt ho HEr.out, ?_, row_but HG10.out.rg bt (fun q => HG10.out.ed.notIn (rowIs_ty HG10.out.rg) (by decide) g q rfl)⟩
                              exact HB10.out.trans ((bt.below (fun k hk => (HO10.out.lt k hk).1) hs10).setCell (show w3.heap.size ≤ g by omega) v')
                            clear y0 y1 y2 y3 f0 hB9 HB39 HG9 HO9 hB10
                            go_wp2_with fail
                            go_region_law (first
                              | (refine step_append_mine rfl (.tmp 171) (.tmp 173) 60 rfl w3.heap.size 101 i93 _ 4 32 Try.underlying60 p0 p1 p2 p3 rfl (by decide) ev es.length (eCells es) (by simp [Act.eval, Act.put]) (HO10.out.alloc _).drew ⟨wc.heap.size, 0, none⟩ 1 1 (eCells [(⟨xu, xv, lv, tr⟩ : Edg)]) (by simp [Act.eval, Act.put]) rfl (edge_drew wc _ _ _ _) (edges_one _) HM.out (by omega) (HS.out _) ?_; intro v' w11 ho hg; have HO := hid ho; have HR := hid (HDn.out _ w11 v' (HBx.out _) ho hg); have c1 := HR.out.2.2.cell (i := 1) (by omega); have fz := HR.out.2.2.frozen; clear ho hg; obtain ⟨p2, n2, cc2, hv2⟩ := owns_form HO.out; subst hv2))
                            all_goals
                              go_wp2
                              exact ⟨⟨z2, kk + 3, es ++ [(⟨xu, xv, lv, tr⟩ : Edg)], _, rfl, by go_num, by omega, by rw [List.length_append]; exact HJ1, HR.out.1.1, HR.out.1.2, HR.out.2.1⟩, by simp [intOf]; omega⟩
                        · clear hbd z0 z1 z2 z3 d0
                          go_wp2
                          go_ret2
                          exact ⟨none, _, rfl, HBw9.out⟩
                    · have ck' : ¬ (kk : Int) < (ms.length : Int) := by omega
                      have dT := HDw.out wr hB.out
                      have hesl : es.length ≤ 2 ^ 20 := by
                        obtain ⟨j, hj, hl⟩ := hJ.out
                        omega
                      have HEs := hid hesl
                      clear hesl
                      go_wp2_with fail
                      refine (numbers_any wr t2 (by have := HZ2.out; omega)).mono ?_
                      rintro e w5 ⟨v2, ok2, rfl, h2, hb5⟩
                      have HB5 : Hid (Below w3.heap.size w3 w5) := hB.out.trans (hb5.mono hBs)
                      have HBw5 : Hid (Below w.heap.size w w5) := HBw3.out.trans (HB5.out.mono HBw3.out.size)
                      have HG5 := hid (hG.out.below hb5)
                      have HX2 := hid h2
                      clear hb5 dT h2
                      cases ok2
                      · have hv2 : v2 = .slice none 0 0 := by
                          rcases HX2.out with q | q
                          · exact q.2
                          · exact absurd q.1 (by simp)
                        subst hv2
                        go_wp2
                        go_ret2
                        exact ⟨none, _, rfl, HBw5.out⟩
                      · have HLf : Hid (Left w5 v2) := by
                          rcases HX2.out with q | q
                          · exact absurd q.1 (by simp)
                          · obtain ⟨l2, q2, _⟩ := q.2
                            exact ⟨l2, q2.ints, q2.2⟩
                        go_wp2_with fail
                        refine (tours_any w5 g x0 es ev tb nt tcap 0 HG5.out v2 HLf.out HEs.out).mono ?_
                        rintro e w6 ⟨bb, rfl, hG6, hb6⟩
                        have HBw6 : Hid (Below w.heap.size w w6) := HBw5.out.trans (hb6.below (B := w.heap.size) (fun k hk => by have q := HBw3.out.size; rw [hk]; omega) HBw5.out.size)
                        have HG6 := hid hG6
                        clear hG6 hb6
                        cases bb
                        · go_wp2
                          go_ret2
                          exact ⟨none, _, rfl, HBw6.out⟩
                        · go_wp2_with fail
                          refine (level_any w6 g x0 es ev tb nt tcap 0 HG6.out).mono ?_
                          rintro e w7 ⟨b2, rfl, hb7⟩
                          have HBw7 : Hid (Below w.heap.size w w7) := HBw6.out.trans (hb7.mono HBw6.out.size)
                          clear hb7
                          cases b2
                          · go_wp2
                            go_ret2
                            exact ⟨none, _, rfl, HBw7.out⟩
                          · go_wp2
                            go_ret2
                            exact ⟨some ⟨g, 0, none⟩, _, rfl, HBw7.out⟩
                · clear hbd
                  go_wp2
                  go_ret2
                  exact ⟨none, _, rfl, HBw3.out⟩
      · go_wp2
        go_ret2
        exact ⟨none, _, rfl, Below.refl _ _⟩

end Go.Proofs.Ytnmdcogckkkfaaa
