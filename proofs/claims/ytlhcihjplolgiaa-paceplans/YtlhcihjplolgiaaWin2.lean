/-
  Layer 13: what goes out in its order.
-/
import Derived.Test.YtlhcihjplolgiaaWin1
namespace Go.Proofs.Ytlhcihjplolgiaa
open Go.RowKit
set_option linter.unusedVariables false

/-- The awaited ones, as long as they wait. -/
def goW : Nat → Ws → Ws × List (List UInt8)
  | 0, s => (s, [])
  | f + 1, s => match findW s.l s.nx with
    | none => (s, [])
    | some t => ((goW f ⟨(s.nx + 1) % 4294967296, s.l.filter (fun p => p.1 != s.nx)⟩).1, t :: (goW f ⟨(s.nx + 1) % 4294967296, s.l.filter (fun p => p.1 != s.nx)⟩).2)
theorem goW_none {f : Nat} {s : Ws} (h : findW s.l s.nx = none) : goW f s = (s, []) := by
  cases f with
  | zero => rfl
  | succ f => simp [goW, h]
theorem goW_some {f : Nat} {s : Ws} {t : List UInt8} (h : findW s.l s.nx = some t) : goW (f + 1) s = ((goW f ⟨(s.nx + 1) % 4294967296, s.l.filter (fun p => p.1 != s.nx)⟩).1, t :: (goW f ⟨(s.nx + 1) % 4294967296, s.l.filter (fun p => p.1 != s.nx)⟩).2) := by
  simp [goW, h]
theorem filter_less {l : List (Nat × List UInt8)} {n : Nat} {t : List UInt8} (h : (n, t) ∈ l) : (l.filter (fun p => p.1 != n)).length < l.length := by
  have : (l.filter (fun p => p.1 != n)).length ≠ l.length := fun e => by
    have := List.filter_eq_self.1 (List.length_filter_eq_length_iff.1 e |> fun hh => List.filter_eq_self.2 hh) (n, t) h
    simp at this
  have := List.length_filter_le (fun p : Nat × List UInt8 => p.1 != n) l
  omega
/-- What came at b, its map at r; what went out, in a row of its own. -/
structure GoMem (w : World) (b r : Nat) (s : Ws) (a : Option Addr) (c : Nat) (ts : List (List UInt8)) (wr : World) : Prop where
  wa : WAt wr b r s
  row : OwnV 9 1 w.heap.size a c (ts.map strCells1) wr
  tch : Touch (fun k => k = b ∨ k = r) w wr
theorem GoMem.keep {w : World} {b r : Nat} {s : Ws} {a : Option Addr} {c : Nat} {ts : List (List UInt8)} {wr w' : World} (h : GoMem w b r s a c ts wr) (hb : Below wr.heap.size wr w') : GoMem w b r s a c ts w' :=
  ⟨h.wa.keep hb, h.row.touch (touch_of_below (S := fun _ => False) hb) (fun _ _ => id), h.tch.trans' (touch_of_below (S := fun _ => False) hb) (fun _ _ => False.elim)⟩
theorem GoMem.text {w : World} {b r : Nat} {s : Ws} {a : Option Addr} {c : Nat} {ts : List (List UInt8)} {wr : World} (h : GoMem w b r s a c ts wr) (hbw : b < w.heap.size) (hrw : r < w.heap.size) (t : List UInt8) (n : Nat) (hn : ts.length = n) (hl : n ≤ 100000) :
    ∃ a' c' w', (Builtin.append_ #[33, 33] 33 #[.slice a n c, .slice (some ⟨wr.heap.size, 0, none⟩) 1 1]).run Try.prog (wr.alloc (.cells #[.string (bs t)] 9)) = .ok (.slice a' (n + 1) c') w' ∧ GoMem w b r s a' c' (ts ++ [t]) w' ∧ Touch (fun k => a.map (·.block) = some k) wr w' := by
  subst hn
  obtain ⟨a', c', w', hrun, hnew, htch⟩ := h.row.one (t := 33) (ty := 33) strTy Try.underlying33 h.tch.size (strCells1 t) (by have := str_wide [t] (strCells1 t) (by simp); exact this) (by simp; omega) _ rfl
  simp only [List.length_map] at hrun
  have nlo : ∀ k, k < w.heap.size → ¬ a.map (·.block) = some k := fun k hk e => by
    cases a with
    | none => simp at e
    | some x => simp at e; have := h.row.2 x rfl; omega
  exact ⟨a', c', w', hrun, ⟨h.wa.touch htch (nlo b hbw) (nlo r hrw), by rw [List.map_append]; exact hnew, h.tch.trans' htch (fun k hk e => absurd e (nlo k hk))⟩, htch⟩
theorem GoMem.next {w : World} {b r : Nat} {s : Ws} {a : Option Addr} {c : Nat} {ts : List (List UInt8)} {wr : World} (h : GoMem w b r s a c ts wr) (hbw : b < w.heap.size) (m : Nat) (hm : m < 4294967296) : GoMem w b r ⟨m, s.l⟩ a c ts (wr.setCell ⟨b, 0, none⟩ (.int .u32 (m : Int))) := by
  have ht : Touch (fun k => k = b) wr (wr.setCell ⟨b, 0, none⟩ (.int .u32 (m : Int))) := (Touch.refl (fun k => k = b) wr).setCell (p := ⟨b, 0, none⟩) (fun _ => rfl) _
  exact ⟨h.wa.next m hm, h.row.touch ht (fun x hx e => by have := h.row.2 x hx; omega), h.tch.trans' ht (fun k hk e => .inl e)⟩
def GoPost (w : World) (b r : Nat) (s' : Ws) (ts : List (List UInt8)) (e : Ending) (w' : World) : Prop := ∃ a c, e = .returned (.slice a ts.length c) ∧ GoMem w b r s' a c ts w'
set_option maxRecDepth 100000 in
set_option maxHeartbeats 2000000 in
theorem goOut_any (b r : Nat) (s0 : Ws) (w : World) (h : WAt w b r s0) (hl : s0.l.length ≤ 1000) : Calls Try.prog 109 #[.pointer (some ⟨b, 0, none⟩)] w (GoPost w b r (goW (s0.l.length + 1) s0).1 (goW (s0.l.length + 1) s0).2) := by
  have hbw := h.lt
  have hrw := h.mp.lt
  have HM0 : Hid (GoMem w b r s0 none 0 [] w) := Lib.hid ⟨h, ⟨World.ownsRow_nil _ _ _ _, (fun x hx => by cases hx)⟩, Touch.refl _ _⟩
  generalize hG : goW (s0.l.length + 1) s0 = G
  have HG := Lib.hid hG
  generalize hpost : GoPost w b r G.1 G.2 = Post
  have HPost := Lib.hid hpost
  clear hpost hG h
  go_enter Try.func109, Try.ntmps109
  go_wp2
  go_loopw [3] (fun lv wr => ∃ (n f : Nat) (s : Ws) (ts : List (List UInt8)) (a : Option Addr) (c : Nat), lv = .slice a n c ∧ n + s.l.length ≤ 1000 ∧ Hid (s.l.length < f ∧ ts.length = n ∧ G = ((goW f s).1, ts ++ (goW f s).2) ∧ GoMem w b r s a c ts wr)) (fun lv _ => match lv with | .slice _ k _ => 2000 - k | _ => 0)
  case atStart => exact ⟨0, s0.l.length + 1, s0, [], none, 0, rfl, by omega, Lib.hid ⟨by omega, rfl, by rw [HG.out]; rfl, HM0.out⟩⟩
  case round =>
    obtain ⟨n, f, s, ts, a, c, rfl, hn, HS⟩ := hrel
    obtain ⟨hf, htl, hgg, hm⟩ := HS.out
    have HM := Lib.hid hm
    have HGG := Lib.hid hgg
    have HTL := Lib.hid htl
    have c0 := hm.wa.c0
    have c1 := hm.wa.c1
    have hbl := hm.wa.lt
    have hnx := hm.wa.nx
    have HD1 := Lib.hid (hm.wa.keep (w' := wr.drew) (Below.refl _ _).drew)
    have HD2 := Lib.hid (fun o => hm.wa.keep (w' := (wr.alloc o).drew) (bel_alloc (Below.refl _ _) o).drew)
    clear hgg htl hm HS
    rcases look_W HM.out.wa s.nx hnx with ⟨hfn, hno, -⟩ | ⟨t, hfs, hin, -⟩
    · have hk1 : (Instr.lookup 201 (.map (some r)) (.int .u32 (s.nx : Int)) true).run Try.prog wr.drew = .ok (.tuple #[.agg #[.int .u32 0, .string ⟨#[]⟩], .bool false]) wr.drew := by
        rcases look_W HD1.out s.nx hnx with ⟨-, -, e⟩ | ⟨t, e, -⟩
        · exact e
        · rw [hfn] at e; cases e
      have hk2 : (Instr.lookup 201 (.map (some r)) (.int .u32 (s.nx : Int)) true).run Try.prog (wr.alloc (.cells #[.int .u32 0, .string ⟨#[]⟩] 142)).drew = .ok (.tuple #[.agg #[.int .u32 0, .string ⟨#[]⟩], .bool false]) (wr.alloc (.cells #[.int .u32 0, .string ⟨#[]⟩] 142)).drew := by
        rcases look_W (HD2.out _) s.nx hnx with ⟨-, -, e⟩ | ⟨t, e, -⟩
        · exact e
        · rw [hfn] at e; cases e
      have HFN := Lib.hid (goW_none (f := f) hfn)
      clear hfn hno
      have HA : Hid (Below wr.heap.size wr (wr.alloc (.cells #[.int .u32 0, .string ⟨#[]⟩] 142)).drew) := Lib.hid (bel_alloc (Below.refl _ _) _).drew
      go_upto_region 2 with (fail)
      go_cut [4, 5] (fun s4 s5 wx => s5 = .bool false ∧ Hid (wx = (wr.alloc (.cells #[.int .u32 0, .string ⟨#[]⟩] 142)).drew))
      case first =>
        go_region
        all_goals (go_wp2_with fail; go_meet)
        all_goals exact ⟨rfl, Lib.hid rfl⟩
      case rest =>
        obtain ⟨rfl, hwx⟩ := hcut
        have HK := Lib.hid (HM.out.keep HA.out)
        rw [← hwx.out] at HK
        clear hwx hk1 hk2 c0 c1 HD1 HD2 HA HM
        go_wp2
        rw [← HPost.out]
        have e1 := HGG.out
        rw [HFN.out] at e1
        rw [e1]
        exact ⟨a, c, by rw [List.append_nil, HTL.out]; rfl, by rw [List.append_nil]; exact HK.out⟩
    · have hk1 : (Instr.lookup 201 (.map (some r)) (.int .u32 (s.nx : Int)) true).run Try.prog wr.drew = .ok (.tuple #[.agg #[.int .u32 (s.nx : Int), .string (bs t)], .bool true]) wr.drew := by
        rcases look_W HD1.out s.nx hnx with ⟨e, -, -⟩ | ⟨t', e, -, e2⟩
        · rw [hfs] at e; cases e
        · rw [hfs] at e; cases e; exact e2
      have hk2 : (Instr.lookup 201 (.map (some r)) (.int .u32 (s.nx : Int)) true).run Try.prog (wr.alloc (.cells #[.int .u32 0, .string ⟨#[]⟩] 142)).drew = .ok (.tuple #[.agg #[.int .u32 (s.nx : Int), .string (bs t)], .bool true]) (wr.alloc (.cells #[.int .u32 0, .string ⟨#[]⟩] 142)).drew := by
        rcases look_W (HD2.out _) s.nx hnx with ⟨e, -, -⟩ | ⟨t', e, -, e2⟩
        · rw [hfs] at e; cases e
        · rw [hfs] at e; cases e; exact e2
      have HIN := Lib.hid hin
      have HLS := Lib.hid (filter_less hin)
      obtain ⟨f', rfl⟩ : ∃ f', f = f' + 1 := ⟨f - 1, by omega⟩
      have HFS := Lib.hid (goW_some (f := f') hfs)
      clear hfs hin
      have HA : Hid (Below wr.heap.size wr (wr.alloc (.cells #[.int .u32 (s.nx : Int), .string (bs t)] 142)).drew) := Lib.hid (bel_alloc (Below.refl _ _) _).drew
      have HX1 : Hid ((wr.alloc (.cells #[.int .u32 (s.nx : Int), .string (bs t)] 142)).drew.cell? ⟨wr.heap.size, 1, none⟩ = some (.string (bs t))) := Lib.hid (by simp)
      go_upto_region 2 with (fail)
      go_cut [4, 5] (fun s4 s5 wx => s4 = .pointer (some ⟨wr.heap.size, 0, none⟩) ∧ s5 = .bool true ∧ Hid (wx = (wr.alloc (.cells #[.int .u32 (s.nx : Int), .string (bs t)] 142)).drew))
      case first =>
        go_region
        all_goals (go_wp2_with fail; go_meet)
        all_goals exact ⟨rfl, rfl, Lib.hid rfl⟩
      case rest =>
        obtain ⟨rfl, rfl, hwx⟩ := hcut
        have HK := Lib.hid (HM.out.keep HA.out)
        rw [← hwx.out] at HK HX1
        clear hwx hk1 hk2 c0 c1 HD1 HD2 HA HM
        have x1 := HX1.out
        have hXl := block_lt_of_cell x1
        simp only at hXl
        obtain ⟨a3, c3, w3, hrun, hm3, ht3⟩ := HK.out.text hbw hrw t n HTL.out (by omega)
        have HRUN := Lib.hid hrun
        have HM3 := Lib.hid hm3
        clear hrun hm3 ht3 HX1
        obtain ⟨w4, hdel, hw4, ht4⟩ := (HM3.out.wa.keep (w' := w3.drew) (Below.refl _ _).drew).drop s.nx hnx t HIN.out 0
        go_wp2_with (at_builtin; refine wpList_append_run _ rfl (.tmp 21) (.tmp 24) 33 33 rfl _ _ rfl rfl (.slice a3 (n + 1) c3) w3 HRUN.out ?_)
        have d0 := HM3.out.wa.c0
        have d1 := HM3.out.wa.c1
        have hb3 := HM3.out.wa.lt
        have HN1 : Hid (GoMem w b r ⟨s.nx, s.l.filter (fun p => p.1 != s.nx)⟩ a3 c3 (ts ++ [t]) w4) := Lib.hid ⟨hw4, HM3.out.row.touch ht4.drew0 (fun x hx e => by have := HM3.out.row.2 x hx; omega), HM3.out.tch.trans' ht4.drew0 (fun k hk e => .inr e)⟩
        clear hw4 ht4
        have hws := wrap_succ s.nx hnx
        have HGN : Hid (G = ((goW f' ⟨(s.nx + 1) % 4294967296, s.l.filter (fun p => p.1 != s.nx)⟩).1, (ts ++ [t]) ++ (goW f' ⟨(s.nx + 1) % 4294967296, s.l.filter (fun p => p.1 != s.nx)⟩).2)) := Lib.hid (by
          have e1 := HGG.out
          rw [HFS.out] at e1
          rw [e1]; simp)
        have HN2 := Lib.hid (HN1.out.next hbw ((s.nx + 1) % 4294967296) (Nat.mod_lt _ (by decide)))
        have hfl := HLS.out
        have e0 := HN1.out.wa.c0
        have e1 := HN1.out.wa.f0
        have hb4 := HN1.out.wa.lt
        simp only at HN2 e0
        generalize s.l.filter (fun p => p.1 != s.nx) = L2 at HGN HN2 hfl
        generalize (s.nx + 1) % 4294967296 = m2 at hws HGN HN2
        clear HN1 HGG HFS HM3 HK HRUN HIN HLS x1 hXl
        go_region
        all_goals
          clear d0 d1 hb3 hdel
          go_wp2
          go_roundw
          case rel => exact ⟨n + 1, f', ⟨m2, L2⟩, ts ++ [t], a3, c3, rfl, by simp only; omega, Lib.hid ⟨by simp only; omega, by rw [List.length_append, HTL.out]; rfl, HGN.out, HN2.out⟩⟩
          case measure => simp <;> omega
end Go.Proofs.Ytlhcihjplolgiaa
