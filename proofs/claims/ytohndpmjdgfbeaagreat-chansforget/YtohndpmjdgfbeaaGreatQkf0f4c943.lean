/-
  ChansForget: the walk.
-/
import Derived.Test.YtohndpmjdgfbeaaGreatMxeaf5c8c3
import Derived.Test.YtohndpmjdgfbeaaGreatOpr
namespace Go.Proofs.YtohndpmjdgfbeaaGreat.CH
open Go.RowKit QW
set_option maxRecDepth 100000
set_option linter.unusedSimpArgs false
set_option linter.unusedVariables false

/-- What a box holds, as a measure. -/
def boxN (v : Value) (w : World) : Nat := match v with
  | .pointer (some a) => ((w.cell? a).map fun v => (intOf v).toNat).getD 0
  | _ => 0
theorem boxN_of {w : World} {b : Nat} {k : Nat} (h : w.cell? ⟨b, 0, none⟩ = some (.int .i64 k)) : boxN (.pointer (some ⟨b, 0, none⟩)) w = k := by
  simp [boxN, h, intOf]

theorem Fl.start {w0 w1 w2 W : World} {z : Zc} {D : Nat → Prop} (hb1 : Below w0.heap.size w0 w1) (hb2 : Below w1.heap.size w1 w2) (hch : Ch w2 tru z 0 ⟨false, [], [], []⟩ D) (hD : ∀ k, D k → w1.heap.size ≤ k) (hz : z.size = 0) (hW : W = (w2.alloc (.cells #[.int .i64 0, .int .i64 0, .int .i64 0, .int .i64 0, .int .i64 0, .int .i64 0, .int .i64 0] (104 : TypeId))).alloc (.cells #[.int .i64 0] 3)) :
    Fl w0 z w2.heap.size 0 (w2.heap.size + 1) (.slice none 0 0) W := by
  obtain ⟨V, hV⟩ : ∃ V, V = w2.alloc (.cells #[.int .i64 0, .int .i64 0, .int .i64 0, .int .i64 0, .int .i64 0, .int .i64 0, .int .i64 0] (104 : TypeId)) := ⟨_, rfl⟩
  rw [← hV] at hW
  have bV : Below w2.heap.size w2 V := by rw [hV]; exact (Below.refl _ w2).alloc (Nat.le_refl _) _
  have sV : V.heap.size = w2.heap.size + 1 := by rw [hV]; simp
  have bW : Below V.heap.size V W := by rw [hW]; exact (Below.refl _ V).alloc (Nat.le_refl _) _
  have hGB : W.heap[w2.heap.size]? = some (.cells (zer.map (Value.int .i64)).toArray (104 : TypeId) (0, 0)) := by rw [bW.block _ (by omega), hV]; exact heap_alloc_new w2 _
  have hbb : W.heap[w2.heap.size + 1]? = some (.cells #[.int .i64 0] 3 (0, 0)) := by rw [hW, ← sV]; exact heap_alloc_new V _
  have b2W : Below w2.heap.size w2 W := bV.trans (bW.mono bV.size)
  have z1 := hb1.size
  have z2 := hb2.size
  have hc := hch.below b2W
  have bwW : Below w0.heap.size w0 W := (hb1.trans (hb2.mono z1)).trans (b2W.mono (by omega))
  exact ⟨fun k => k = w2.heap.size + 1, fun _ => 0, fun _ => 0, D, ⟨hz, hc, fun k hk => by have := hD k hk; omega, fun j hj => by omega, fun j hj => (by simp at hj), List.nodup_range, fun a b ha => by omega, fun j hj => by omega, fun j hj => by omega, hGB, rfl, ⟨fun e => by have := hch.lt e; omega, by omega⟩, fun k hk => by subst hk; exact ⟨heap_lt hbb, fun e => by have := hch.lt e; omega, by omega, fun j hj => by omega⟩, fun _ _ => rfl, bwW⟩, hbb, rfl, ⟨rfl, .inl ⟨rfl, rfl⟩⟩, fun g hg => (by cases hg)⟩

section
variable {w : World} {ga : Option Addr} {gn gcap : Nat} {gs : List Int}

set_option maxHeartbeats 8000000 in
theorem chansForget_any (x y : Int) (hG : QI.Ls w ga gn gcap gs) :
    Calls Tryz.prog 8 #[.int .i64 x, .slice ga gn gcap, .int .i64 y] w fun e w' => e = .returned (.bool true) ∧ Below w.heap.size w w' := by
  have C1 := kpick_any x 6 w (by omega) (by omega)
  have C2 := kpick_any y 9 w (by omega) (by omega)
  have hp1 := pck_lt x (n := 6) (by omega)
  have hp2 := pck_lt y (n := 9) (by omega)
  obtain ⟨n, hn⟩ : ∃ n, n = pck x 6 + 1 := ⟨_, rfl⟩
  have hn6 : n ≤ 6 := by omega
  have hn1 : 1 ≤ n := by omega
  have HPN : Hid (1 + ((pck x 6 : Nat) : Int) = (n : Int) ∧ ((pck x 6 : Nat) : Int) + 1 = (n : Int)) := hide (by omega)
  clear hn
  generalize pck y 9 = sends at *
  have CN := new_any w
  have HG := hide hG
  have hgl := hG.len
  have hg1 := hG.le
  have hg2 := hG.reach
  clear hG
  generalize pck x 6 = p at *
  go_enter Tryz.func8, Tryz.ntmps8
  go_wp2_with fail
  refine C1.mono ?_
  rintro e w1 ⟨rfl, hw1⟩
  subst w1
  go_wp2_with fail
  refine C2.mono ?_
  rintro e w1 ⟨rfl, hw1⟩
  subst w1
  go_wp2_with fail
  refine CN.mono ?_
  rintro e w1 ⟨a, rfl, rt, _, hb1⟩
  have CM := make_any (w := w1) tru 0 (r := a.R) (n := 0) (by omega) (fun V hV => rmade_yes ((rt.below hV).m.cR 0))
  have HB1 := hide hb1
  clear C1 C2 CN rt hb1
  go_wp2_with fail
  refine CM.mono ?_
  rintro e w2 ⟨z, rfl, _, hz, hb2, D, hch, hD⟩
  have HB2 : Hid (Below w1.heap.size w1 w2) := hide hb2
  have HCH := hide hch
  have HD := hide hD
  have HZ := hide hz
  clear CM hch hD hz hb2
  go_wp2_with fail
  first | rw [HPN.out.1] | rw [HPN.out.2]
  clear HPN
  obtain ⟨W, hW⟩ : ∃ W, W = (w2.alloc (.cells #[.int .i64 0, .int .i64 0, .int .i64 0, .int .i64 0, .int .i64 0, .int .i64 0, .int .i64 0] (104 : TypeId))).alloc (.cells #[.int .i64 0] 3) := ⟨_, rfl⟩
  have HF0 := hide (Fl.start HB1.out HB2.out HCH.out HD.out HZ.out hW)
  rw [← hW]
  obtain ⟨GB, hGB⟩ : ∃ g, Hid (w2.heap.size = g) := ⟨_, hide rfl⟩
  obtain ⟨b0, hb0⟩ : ∃ g, Hid (GB + 1 = g) := ⟨_, hide rfl⟩
  rw [hGB.out] at HF0 ⊢
  rw [hb0.out] at HF0 ⊢
  clear hW HB1 HB2 HCH HD HZ hGB hb0
  go_loopw [11, 12] (fun ks ib wr => ∃ (i b : Nat), i ≤ n ∧ ib = .pointer (some ⟨b, 0, none⟩) ∧ Hid (Fl w z GB i b ks wr)) (fun _ ib wr => n - boxN ib wr)
  case atStart => exact ⟨0, b0, Nat.zero_le _, rfl, HF0⟩
  case round =>
    obtain ⟨i, b, hi, rfl, hd⟩ := hrel
    have hb : wr.cell? ⟨b, 0, none⟩ = some (.int .i64 i) := by
      obtain ⟨Q, K, I, D, h, hb, _⟩ := hd.out
      exact cell_of_row _ _ 0 _ _ _ hb
    by_cases hin : i < n
    · have hii : decide ((i : Int) < (n : Int)) = true := by simp; omega
      have hmeas := boxN_of hb
      have CK := newticket_any wr (.func 51) #[] #[]
      obtain ⟨k, hk⟩ : ∃ k, Hid (wr.heap.size = k) := ⟨_, hide rfl⟩
      rw [hk.out] at CK
      have HS := hide (fun (w1 : World) (h1 : Tkt w1 wr.heap.size F51) (h2 : Below wr.heap.size wr w1) => hd.out.step (by omega) h1 h2)
      rw [hk.out] at HS
      clear hd HF0
      go_wp2_with fail
      refine CK.mono ?_
      rintro e w3 ⟨rfl, ht, hb3⟩
      obtain ⟨va, vc, pb, c, X, rfl, run, x1, x2, x3, x4, HW⟩ := HS.out w3 ht hb3
      clear CK HS ht hb3
      go_wp2_with (at_builtin; refine wpList_append_run rfl (105 : TypeId) _ _ rfl (.slice va i vc) (.slice (some ⟨w3.heap.size, 0, none⟩) 1 1) (.slice (some ⟨pb, 0, none⟩) (i + 1) c) (by simp [Act.eval]) (by simp [Act.eval]) run ?_)
      refine HW.out.mono ?_
      rintro e w4 ⟨rfl, y1, HFl⟩
      clear HW run x1 x2 hb
      go_wp2_with fail
      have hnew : ((w4.alloc (.cells #[.int .i64 ((i : Int) + 1)] 3)).cell? ⟨w4.heap.size, 0, none⟩) = some (.int .i64 ((i + 1 : Nat) : Int)) := cell_of_row _ _ 0 _ _ _ (heap_alloc_new w4 _)
      have hm2 := boxN_of hnew
      refine ⟨⟨i + 1, w4.heap.size, by omega, rfl, hide (HFl.out _ rfl)⟩, ?_⟩
      rw [hm2, hmeas]
      omega
    · obtain rfl : i = n := by omega
      have hii : decide ((i : Int) < (i : Int)) = false := by simp
      obtain ⟨Q, K, I, D, hfo, _, _, hrow, hrQ⟩ := hd.out
      obtain ⟨pb, pc, rfl, hp3, hp4, hcell⟩ := row_at hrow (by omega)
      have hmk := mkM wr
      obtain ⟨V, hV⟩ : ∃ V, V = wr.alloc (.map #[] 0) := ⟨_, rfl⟩
      obtain ⟨M, hM⟩ : ∃ M, Hid (wr.heap.size = M) := ⟨_, hide rfl⟩
      have HM0 : Hid (Fm w z GB i pb M K I tru zer (lft [] i) [] V) := hide (by rw [← hM.out]; exact Fm.start hfo (hrQ pb rfl) (fun j hj => hcell j _ (by simp [hj])) hV)
      rw [hM.out, ← hV] at hmk
      clear hd HF0 hfo hrow hrQ hcell hV hM
      go_wp2_with fail
      clear hmk hb
      go_loopw [14] (fun iv wr => ∃ (q : Nat) (ks : List Int), q ≤ gn ∧ q ≤ 6 ∧ iv = .int .i64 q ∧ Hid (Fm w z GB i pb M K I tru zer (lft ks i) ks wr)) (fun iv _ => gn - (intOf iv).toNat)
      case atStart => exact ⟨0, [], Nat.zero_le _, by omega, rfl, HM0⟩
      case round =>
        clear HM0
        obtain ⟨q, ks, hq, hq6, rfl, hd⟩ := hrel
        by_cases hqg : q < gn
        · have hi1 : decide ((q : Int) < (gn : Int)) = true := by simp; omega
          by_cases hq5 : q < 6
          · have hi2 : decide ((q : Int) < 6) = true := by simp; omega
            obtain ⟨gb, go, hga, hgc⟩ := HG.out.lies (by omega)
            subst hga
            have cg := hgc q hqg
            have cg' := (hd.out.bel.cell (cell_lt cg)).trans cg
            generalize gs.getD q 0 = gx at *
            have CP := kpick_any gx i wr (by omega) (by omega)
            have hpl := pck_lt gx (n := i) (by omega)
            generalize pck gx i = at' at *
            have hlook := hd.out.map.look (k := (at' : Int)) ⟨by omega, by omega⟩
            have crow := hd.out.row hpl
            have CF := hide (hd.out.forget (by omega) hpl)
            have hal : (at' : Int) < (i : Int) := by omega
            clear hd cg hgc
            by_cases hin : (at' : Int) ∈ ks
            · rw [decide_eq_true hin] at hlook
              rw [if_pos hin] at CF
              clear hin
              go_wp2_with fail
              refine CP.mono ?_
              rintro e w3 ⟨rfl, hw3⟩
              subst w3
              go_wp2_with fail
              refine CF.out.mono ?_
              rintro e w3 ⟨rfl, h3⟩
              obtain ⟨X, ls, hup, h4⟩ := h3.note (by omega) hpl
              have H4 := hide h4
              clear CP CF hlook crow cg' h3 h4
              go_wp2_with fail
              go_roundw
              case rel => exact ⟨q + 1, ls, by omega, by omega, by go_num, H4⟩
              case measure => simp [intOf]; omega
            · rw [decide_eq_false hin] at hlook
              rw [if_neg hin] at CF
              clear hin
              go_wp2_with fail
              refine CP.mono ?_
              rintro e w3 ⟨rfl, hw3⟩
              subst w3
              go_wp2_with fail
              refine CF.out.mono ?_
              rintro e w3 ⟨rfl, h3⟩
              obtain ⟨X, ls, hup, h4⟩ := h3.note (by omega) hpl
              have H4 := hide h4
              clear CP CF hlook crow cg' h3 h4
              go_wp2_with fail
              go_roundw
              case rel => exact ⟨q + 1, ls, by omega, by omega, by go_num, H4⟩
              case measure => simp [intOf]; omega
          · have hi2 : decide ((q : Int) < 6) = false := by simp; omega
            have hfew := hd.out.few
            have CW := hd.out.waits
            have HL := hide hfew.2
            have hkl := hfew.1
            have HST := hide (fun V (h : Fm w z GB i pb M K I tru zer (lft ks i) ks V) => Fv.start h)
            generalize hlen : (lft ks i).length = L at *
            clear hd HG hfew
            go_wp2_with fail
            refine CW.mono ?_
            rintro e w3 ⟨rfl, h3⟩
            have hml := fun ty => h3.map.len ty
            have HV := hide (HST.out _ h3)
            have e1 : (i : Int) - (ks.length : Int) = (L : Int) := by have := HL.out; omega
            clear CW HST h3
            go_wp2_with fail
            go_loopw [19] (fun iv wr => ∃ q : Nat, q ≤ sends ∧ iv = .int .i64 q ∧ Hid (Fv w z GB i pb M K I ks (min q L) wr)) (fun iv _ => sends - (intOf iv).toNat)
            case atStart => exact ⟨0, Nat.zero_le _, rfl, by rw [Nat.zero_min]; exact HV⟩
            case round =>
              clear HV hml
              obtain ⟨q, hq, rfl, hv⟩ := hrel
              by_cases hqs : q < sends
              · have hi3 : decide ((q : Int) < (sends : Int)) = true := by simp; omega
                by_cases hqL : q < L
                · have hv' := hv.out
                  rw [Nat.min_eq_left (by omega)] at hv'
                  have CS := hide (hv'.send (by omega) (by omega))
                  have hi4 : decide ((q : Int) < (L : Int)) = true := by simp; omega
                  clear hv hv'
                  go_wp2_with fail
                  refine CS.out.mono ?_
                  rintro e w4 ⟨rfl, h4⟩
                  have hml4 := fun ty => h4.map.len ty
                  have H4 := hide h4
                  clear CS h4
                  go_wp2_with fail
                  go_roundw
                  case rel => exact ⟨q + 1, by omega, by go_num, by rw [Nat.min_eq_left (by omega)]; exact H4⟩
                  case measure => simp [intOf]; omega
                · have hv' := hv.out
                  rw [Nat.min_eq_right (by omega)] at hv'
                  have CS := hide (hv'.sendNo (by omega) ((q : Int) + 1))
                  have hi4 : decide ((q : Int) < (L : Int)) = false := by simp; omega
                  clear hv hv'
                  go_wp2_with fail
                  refine CS.out.mono ?_
                  rintro e w4 ⟨rfl, h4⟩
                  have hml4 := fun ty => h4.map.len ty
                  have H4 := hide h4
                  clear CS h4
                  go_wp2_with fail
                  go_roundw
                  case rel => exact ⟨q + 1, by omega, by go_num, by rw [Nat.min_eq_right (by omega)]; exact H4⟩
                  case measure => simp [intOf]; omega
              · obtain rfl : q = sends := by omega
                have hi3 : decide ((q : Int) < (q : Int)) = false := by simp
                clear HL e1
                go_wp2_with fail
                go_loopw [22, 23] (fun nx iv wr => ∃ r : Nat, r ≤ i ∧ iv = .int .i64 r ∧ nx = .int .i64 ((min (ahd ks r) q : Nat) + 1 : Int) ∧ Hid (Fv w z GB i pb M K I ks (min q L) wr)) (fun _ iv _ => i - (intOf iv).toNat)
                case atStart => exact ⟨0, Nat.zero_le _, rfl, by simp [ahd, lft], hv⟩
                case round =>
                  clear hv
                  obtain ⟨r, hr, rfl, rfl, hv⟩ := hrel
                  by_cases hri : r < i
                  · have hi5 : decide ((r : Int) < (i : Int)) = true := by simp; omega
                    have hlook := hv.out.map.look (k := (r : Int)) ⟨by omega, by omega⟩
                    have hgot := hv.out.got (j := r) (by omega)
                    have hr7 : (r : Int) < 7 := by omega
                    have hsucc := ahd_succ ks r
                    by_cases hin : (r : Int) ∈ ks
                    · rw [decide_eq_true hin] at hlook
                      rw [gots_out hin] at hgot
                      rw [if_pos hin] at hsucc
                      have hH := hide hsucc
                      clear hin hsucc
                      generalize hA2 : ahd ks (r + 1) = a2 at *
                      have HA2 := hide hA2
                      clear hA2
                      generalize ahd ks r = a1 at *
                      go_wp2_with fail
                      go_roundw
                      case rel => exact ⟨r + 1, by omega, by go_num, by rw [HA2.out, show a2 = a1 from hH.out], hv⟩
                      case measure => simp [intOf]; omega
                    · rw [decide_eq_false hin] at hlook
                      rw [gots_end (sends := q) (by rw [hlen]) hri hin] at hgot
                      rw [if_neg hin] at hsucc
                      have hH := hide hsucc
                      clear hin hsucc
                      generalize hA2 : ahd ks (r + 1) = a2 at *
                      have HA2 := hide hA2
                      clear hA2
                      generalize ahd ks r = a1 at *
                      by_cases hqa : q ≤ a1
                      · rw [if_pos hqa] at hgot
                        have hmn : min a1 q = q := Nat.min_eq_right hqa
                        have hmn2 : min a2 q = q := Nat.min_eq_right (by have := hH.out; omega)
                        rw [hmn]
                        have hi6 : decide (((q : Nat) : Int) + 1 > (q : Int)) = true := by simp; omega
                        clear hqa hmn
                        go_wp2_with fail
                        go_roundw
                        case rel => exact ⟨r + 1, by omega, by go_num, by rw [HA2.out, hmn2], hv⟩
                        case measure => simp [intOf]; omega
                      · rw [if_neg hqa] at hgot
                        have hmn : min a1 q = a1 := Nat.min_eq_left (by omega)
                        have hmn2 : min a2 q = a1 + 1 := by have := hH.out; omega
                        rw [hmn]
                        have hi6 : decide (((a1 : Nat) : Int) + 1 > (q : Int)) = false := by simp; omega
                        have ha1 : a1 < 9 := by omega
                        clear hqa hmn
                        go_wp2_with fail
                        go_roundw
                        case rel => exact ⟨r + 1, by omega, by go_num, by rw [HA2.out, hmn2]; go_num, hv⟩
                        case measure => simp [intOf]; omega
                  · obtain rfl : r = i := by omega
                    have hi5 : decide ((r : Int) < (r : Int)) = false := by simp
                    have HB := hide hv.out.bel
                    have CA := awake_any wr
                    clear hv
                    go_wp2_with fail
                    refine CA.mono ?_
                    rintro e w5 ⟨rfl, hb5⟩
                    have HB5 := hide (HB.out.trans (hb5.mono HB.out.size))
                    clear CA hb5 HB
                    go_wp2_with fail
                    go_ret
                    exact ⟨rfl, HB5.out⟩
        · have hi1 : decide ((q : Int) < (gn : Int)) = false := by simp; omega
          have hfew := hd.out.few
          have CW := hd.out.waits
          have HL := hide hfew.2
          have hkl := hfew.1
          have HST := hide (fun V (h : Fm w z GB i pb M K I tru zer (lft ks i) ks V) => Fv.start h)
          generalize hlen : (lft ks i).length = L at *
          clear hd HG hfew
          go_wp2_with fail
          refine CW.mono ?_
          rintro e w3 ⟨rfl, h3⟩
          have hml := fun ty => h3.map.len ty
          have HV := hide (HST.out _ h3)
          have e1 : (i : Int) - (ks.length : Int) = (L : Int) := by have := HL.out; omega
          clear CW HST h3
          go_wp2_with fail
          go_loopw [19] (fun iv wr => ∃ q : Nat, q ≤ sends ∧ iv = .int .i64 q ∧ Hid (Fv w z GB i pb M K I ks (min q L) wr)) (fun iv _ => sends - (intOf iv).toNat)
          case atStart => exact ⟨0, Nat.zero_le _, rfl, by rw [Nat.zero_min]; exact HV⟩
          case round =>
            clear HV hml
            obtain ⟨q, hq, rfl, hv⟩ := hrel
            by_cases hqs : q < sends
            · have hi3 : decide ((q : Int) < (sends : Int)) = true := by simp; omega
              by_cases hqL : q < L
              · have hv' := hv.out
                rw [Nat.min_eq_left (by omega)] at hv'
                have CS := hide (hv'.send (by omega) (by omega))
                have hi4 : decide ((q : Int) < (L : Int)) = true := by simp; omega
                clear hv hv'
                go_wp2_with fail
                refine CS.out.mono ?_
                rintro e w4 ⟨rfl, h4⟩
                have hml4 := fun ty => h4.map.len ty
                have H4 := hide h4
                clear CS h4
                go_wp2_with fail
                go_roundw
                case rel => exact ⟨q + 1, by omega, by go_num, by rw [Nat.min_eq_left (by omega)]; exact H4⟩
                case measure => simp [intOf]; omega
              · have hv' := hv.out
                rw [Nat.min_eq_right (by omega)] at hv'
                have CS := hide (hv'.sendNo (by omega) ((q : Int) + 1))
                have hi4 : decide ((q : Int) < (L : Int)) = false := by simp; omega
                clear hv hv'
                go_wp2_with fail
                refine CS.out.mono ?_
                rintro e w4 ⟨rfl, h4⟩
                have hml4 := fun ty => h4.map.len ty
                have H4 := hide h4
                clear CS h4
                go_wp2_with fail
                go_roundw
                case rel => exact ⟨q + 1, by omega, by go_num, by rw [Nat.min_eq_right (by omega)]; exact H4⟩
                case measure => simp [intOf]; omega
            · obtain rfl : q = sends := by omega
              have hi3 : decide ((q : Int) < (q : Int)) = false := by simp
              clear HL e1
              go_wp2_with fail
              go_loopw [22, 23] (fun nx iv wr => ∃ r : Nat, r ≤ i ∧ iv = .int .i64 r ∧ nx = .int .i64 ((min (ahd ks r) q : Nat) + 1 : Int) ∧ Hid (Fv w z GB i pb M K I ks (min q L) wr)) (fun _ iv _ => i - (intOf iv).toNat)
              case atStart => exact ⟨0, Nat.zero_le _, rfl, by simp [ahd, lft], hv⟩
              case round =>
                clear hv
                obtain ⟨r, hr, rfl, rfl, hv⟩ := hrel
                by_cases hri : r < i
                · have hi5 : decide ((r : Int) < (i : Int)) = true := by simp; omega
                  have hlook := hv.out.map.look (k := (r : Int)) ⟨by omega, by omega⟩
                  have hgot := hv.out.got (j := r) (by omega)
                  have hr7 : (r : Int) < 7 := by omega
                  have hsucc := ahd_succ ks r
                  by_cases hin : (r : Int) ∈ ks
                  · rw [decide_eq_true hin] at hlook
                    rw [gots_out hin] at hgot
                    rw [if_pos hin] at hsucc
                    have hH := hide hsucc
                    clear hin hsucc
                    generalize hA2 : ahd ks (r + 1) = a2 at *
                    have HA2 := hide hA2
                    clear hA2
                    generalize ahd ks r = a1 at *
                    go_wp2_with fail
                    go_roundw
                    case rel => exact ⟨r + 1, by omega, by go_num, by rw [HA2.out, show a2 = a1 from hH.out], hv⟩
                    case measure => simp [intOf]; omega
                  · rw [decide_eq_false hin] at hlook
                    rw [gots_end (sends := q) (by rw [hlen]) hri hin] at hgot
                    rw [if_neg hin] at hsucc
                    have hH := hide hsucc
                    clear hin hsucc
                    generalize hA2 : ahd ks (r + 1) = a2 at *
                    have HA2 := hide hA2
                    clear hA2
                    generalize ahd ks r = a1 at *
                    by_cases hqa : q ≤ a1
                    · rw [if_pos hqa] at hgot
                      have hmn : min a1 q = q := Nat.min_eq_right hqa
                      have hmn2 : min a2 q = q := Nat.min_eq_right (by have := hH.out; omega)
                      rw [hmn]
                      have hi6 : decide (((q : Nat) : Int) + 1 > (q : Int)) = true := by simp; omega
                      clear hqa hmn
                      go_wp2_with fail
                      go_roundw
                      case rel => exact ⟨r + 1, by omega, by go_num, by rw [HA2.out, hmn2], hv⟩
                      case measure => simp [intOf]; omega
                    · rw [if_neg hqa] at hgot
                      have hmn : min a1 q = a1 := Nat.min_eq_left (by omega)
                      have hmn2 : min a2 q = a1 + 1 := by have := hH.out; omega
                      rw [hmn]
                      have hi6 : decide (((a1 : Nat) : Int) + 1 > (q : Int)) = false := by simp; omega
                      have ha1 : a1 < 9 := by omega
                      clear hqa hmn
                      go_wp2_with fail
                      go_roundw
                      case rel => exact ⟨r + 1, by omega, by go_num, by rw [HA2.out, hmn2]; go_num, hv⟩
                      case measure => simp [intOf]; omega
                · obtain rfl : r = i := by omega
                  have hi5 : decide ((r : Int) < (r : Int)) = false := by simp
                  have HB := hide hv.out.bel
                  have CA := awake_any wr
                  clear hv
                  go_wp2_with fail
                  refine CA.mono ?_
                  rintro e w5 ⟨rfl, hb5⟩
                  have HB5 := hide (HB.out.trans (hb5.mono HB.out.size))
                  clear CA hb5 HB
                  go_wp2_with fail
                  go_ret
                  exact ⟨rfl, HB5.out⟩
end

end Go.Proofs.YtohndpmjdgfbeaaGreat.CH

namespace Go.Proofs.YtohndpmjdgfbeaaGreat.chansForget
open Go.ChangeShapes Go.WideShapes Go.ChangeAt Go.RowKit
theorem walk {w : World} {ga : Option Addr} {gn gcap : Nat} {gs : List Int} (hG : QI.Ls w ga gn gcap gs) (x y : Int) :
    Calls Tryz.prog 8 #[.int .i64 x, .slice ga gn gcap, .int .i64 y] w fun e w' => e = .returned (.bool true) ∧ Below w.heap.size w w' := CH.chansForget_any x y hG
theorem open_ints {H : Type} {enc : TypeId × Value → H} {W : World} {a : Option Addr} {len cap : Nat} {d : DataW H} {p : List MemPlace}
    (h : DataW.Trod enc Tryz.prog W 0 (fun _ => true) true 23 (.slice a len cap) d p) : ∃ xs, QI.Ls W a len cap xs ∧ ((d = .nil ∧ len = 0) ∨ ∃ es rs : List (DataW H), es.length = len ∧ d = .slice es rs) := by
  obtain ⟨xs, hL, hd⟩ := open_rows (fun z : Int => [Value.int .i64 z]) 1 (fun _ => True) Tryz.underlying23 (by kernel_rfl) (by omega) (fun _ => rfl) (fun fuel cs x h => by
    obtain ⟨z, hz, _, w0⟩ := DataW.trod_int Tryz.underlying3 h
    exact ⟨z, hz, trivial⟩) h
  refine ⟨xs, ⟨hL.len, hL.le, hL.reach, fun hn => ?_⟩, hd⟩
  obtain ⟨b, off, ha, hc⟩ := hL.lies hn
  refine ⟨b, off, ha, fun i hi => ?_⟩
  have hl := hL.len
  have := hc i (xs.getD i 0) (by simp [List.getD, List.getElem?_eq_getElem (by omega : i < xs.length)]) 0 _ rfl
  simpa using this
end Go.Proofs.YtohndpmjdgfbeaaGreat.chansForget
