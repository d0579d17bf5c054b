/- Plain facts on packets: what is taken from the front of bytes, up to a first error. No run of a program is in this file. -/
import Derived.Test.YtiancngpknnkaaaGreatB07
import Derived.Test.YtiancngpknnkaaaGreatB04
set_option maxRecDepth 100000
set_option maxHeartbeats 64000000
namespace Go.Proofs.YtiancngpknnkaaaGreat
open Go.RowKit Go.Lib Prp Pkt
theorem PacketWeight_is (p : Pk) (a : Ad) (w : World) (hf : PkFit p a) (h : PkAt w w.heap.size p a) :
    Calls Tryz.prog 38 #[.agg (pkArr p a)] w fun e w' => (∃ n : Int, e = .returned (.int .i64 n)) ∧ Below w.heap.size w w' := by
  have HW1 := Lib.hid (fun (W : World) {g : Nat} (k : KP w g p a W) => PropsWeight_is p.ps a.pa a.pc w.heap.size W hf.pl1.1 hf.ps k.out.2.ps)
  have HW2 := Lib.hid (fun (W : World) {g : Nat} (k : KP w g p a W) => PropsWeight_is p.w.ps a.wa a.wc w.heap.size W hf.wl1.1 hf.ws k.out.2.ws)
  have hfl := hf.fl1.1
  have H := Lib.hid h
  clear h hf
  have HK0 := Keep.new w 30 (pkArr p a)
  obtain ⟨W1, hW⟩ : ∃ W1, w.alloc (.cells (pkArr p a) 30) = W1 := ⟨_, rfl⟩
  rw [hW] at HK0
  unfold pkArr at hW ⊢
  have HW := Lib.hid hW
  clear hW
  go_enter Tryz.func38, Tryz.ntmps38
  go_upto_region 1 with fail
  rw [HW.out]
  generalize Value.agg _ = v0
  obtain ⟨g, hg⟩ : ∃ g, w.heap.size = g := ⟨_, rfl⟩
  rw [hg] at HK0 ⊢
  have HK := Lib.hid (KP.new HK0 H.out)
  clear HW HK0 H
  have HG := Lib.hid hg
  clear hg
  have st0 := HK.out
  clear HK
  refine wp_region_held_drew (S := KP w g p a) (by kernel_rfl) (st0.drewN 1) (fun hHeld => ?_)
  generalize W1.drew = Wd at hHeld ⊢
  refine take_op 0 5 ?v0 rfl rfl (by kernel_rfl) (fun _ _ _ h => h) (by rfl) hHeld (fun w' hS' => ?hv0) ?hh0
  case hv0 => (go_simp; try with_reducible rfl)
  simp only [Act.put, List.setIfInBounds_toArray, List.set_cons_zero, List.set_cons_succ]
  refine take_op 1 6 ?v1 rfl rfl (by kernel_rfl) (fun _ _ _ h => h) (by rfl) hHeld (fun w' hS' => ?hv1) ?hh1
  case hv1 => (have k := hS'.k.f5; go_simp; try with_reducible rfl)
  simp only [Act.put, List.setIfInBounds_toArray, List.set_cons_zero, List.set_cons_succ]
  refine take_op 2 7 ?v2 rfl rfl (by kernel_rfl) (fun _ _ _ h => h) (by rfl) hHeld (fun w' hS' => ?hv2) ?hh2
  case hv2 => (go_simp; try with_reducible rfl)
  simp only [Act.put, List.setIfInBounds_toArray, List.set_cons_zero, List.set_cons_succ]
  refine take_op 3 8 ?v3 rfl rfl (by kernel_rfl) (fun _ _ _ h => h) (by rfl) hHeld (fun w' hS' => ?hv3) ?hh3
  case hv3 => (go_simp; try with_reducible rfl)
  simp only [Act.put, List.setIfInBounds_toArray, List.set_cons_zero, List.set_cons_succ]
  refine take_op 4 9 ?v4 rfl rfl (by kernel_rfl) (fun _ _ _ h => h) (by rfl) hHeld (fun w' hS' => ?hv4) ?hh4
  case hv4 => (go_simp; try with_reducible rfl)
  simp only [Act.put, List.setIfInBounds_toArray, List.set_cons_zero, List.set_cons_succ]
  refine take_op 5 10 ?v5 rfl rfl (by kernel_rfl) (fun _ _ _ h => h) (by rfl) hHeld (fun w' hS' => ?hv5) ?hh5
  case hv5 => (have k := hS'.k.f6; go_simp; try with_reducible rfl)
  simp only [Act.put, List.setIfInBounds_toArray, List.set_cons_zero, List.set_cons_succ]
  refine take_op 6 11 ?v6 rfl rfl (by kernel_rfl) (fun _ _ _ h => h) (by rfl) hHeld (fun w' hS' => ?hv6) ?hh6
  case hv6 => (go_simp; try with_reducible rfl)
  simp only [Act.put, List.setIfInBounds_toArray, List.set_cons_zero, List.set_cons_succ]
  refine take_op 7 12 ?v7 rfl rfl (by kernel_rfl) (fun _ _ _ h => h) (by rfl) hHeld (fun w' hS' => ?hv7) ?hh7
  case hv7 => (go_simp; try with_reducible rfl)
  simp only [Act.put, List.setIfInBounds_toArray, List.set_cons_zero, List.set_cons_succ]
  refine take_op 8 13 ?v8 rfl rfl (by kernel_rfl) (fun _ _ _ h => h) (by rfl) hHeld (fun w' hS' => ?hv8) ?hh8
  case hv8 => (go_simp; try with_reducible rfl)
  simp only [Act.put, List.setIfInBounds_toArray, List.set_cons_zero, List.set_cons_succ]
  refine take_op 9 14 ?v9 rfl rfl (by kernel_rfl) (fun _ _ _ h => h) (by rfl) hHeld (fun w' hS' => ?hv9) ?hh9
  case hv9 => (have k := hS'.k.f9; go_simp; try with_reducible rfl)
  simp only [Act.put, List.setIfInBounds_toArray, List.set_cons_zero, List.set_cons_succ]
  refine take_op 10 15 ?v10 rfl rfl (by kernel_rfl) (fun _ _ _ h => h) (by rfl) hHeld (fun w' hS' => ?hv10) ?hh10
  case hv10 => (go_simp; try with_reducible rfl)
  simp only [Act.put, List.setIfInBounds_toArray, List.set_cons_zero, List.set_cons_succ]
  refine take_op 11 16 ?v11 rfl rfl (by kernel_rfl) (fun _ _ _ h => h) (by rfl) hHeld (fun w' hS' => ?hv11) ?hh11
  case hv11 => (go_simp; try with_reducible rfl)
  simp only [Act.put, List.setIfInBounds_toArray, List.set_cons_zero, List.set_cons_succ]
  refine take_op 12 17 ?v12 rfl rfl (by kernel_rfl) (fun _ _ _ h => h) (by rfl) hHeld (fun w' hS' => ?hv12) ?hh12
  case hv12 => (go_simp; try with_reducible rfl)
  simp only [Act.put, List.setIfInBounds_toArray, List.set_cons_zero, List.set_cons_succ]
  refine take_op 13 18 ?v13 rfl rfl (by kernel_rfl) (fun _ _ _ h => h) (by rfl) hHeld (fun w' hS' => ?hv13) ?hh13
  case hv13 => (have k := hS'.k.f11; go_simp; try with_reducible rfl)
  simp only [Act.put, List.setIfInBounds_toArray, List.set_cons_zero, List.set_cons_succ]
  refine take_op 14 19 ?v14 rfl rfl (by kernel_rfl) (fun _ _ _ h => h) (by rfl) hHeld (fun w' hS' => ?hv14) ?hh14
  case hv14 => (go_simp; try with_reducible rfl)
  simp only [Act.put, List.setIfInBounds_toArray, List.set_cons_zero, List.set_cons_succ]
  refine take_op 15 20 ?v15 rfl rfl (by kernel_rfl) (fun _ _ _ h => h) (by rfl) hHeld (fun w' hS' => ?hv15) ?hh15
  case hv15 => (go_simp; try with_reducible rfl)
  simp only [Act.put, List.setIfInBounds_toArray, List.set_cons_zero, List.set_cons_succ]
  refine take_op 16 21 ?v16 rfl rfl (by kernel_rfl) (fun _ _ _ h => h) (by rfl) hHeld (fun w' hS' => ?hv16) ?hh16
  case hv16 => (go_simp; try with_reducible rfl)
  simp only [Act.put, List.setIfInBounds_toArray, List.set_cons_zero, List.set_cons_succ]
  refine take_op 17 22 ?v17 rfl rfl (by kernel_rfl) (fun _ _ _ h => h) (by rfl) hHeld (fun w' hS' => ?hv17) ?hh17
  case hv17 => (have k := hS'.k.f21; go_simp; try with_reducible rfl)
  simp only [Act.put, List.setIfInBounds_toArray, List.set_cons_zero, List.set_cons_succ]
  refine take_op 18 23 ?v18 rfl rfl (by kernel_rfl) (fun _ _ _ h => h) (by rfl) hHeld (fun w' hS' => ?hv18) ?hh18
  case hv18 => (go_simp; try with_reducible rfl)
  simp only [Act.put, List.setIfInBounds_toArray, List.set_cons_zero, List.set_cons_succ]
  refine take_op 19 24 ?v19 rfl rfl (by kernel_rfl) (fun _ _ _ h => h) (by rfl) hHeld (fun w' hS' => ?hv19) ?hh19
  case hv19 => (go_simp; try with_reducible rfl)
  simp only [Act.put, List.setIfInBounds_toArray, List.set_cons_zero, List.set_cons_succ]
  refine take_op 20 25 ?v20 rfl rfl (by kernel_rfl) (fun _ _ _ h => h) (by rfl) hHeld (fun w' hS' => ?hv20) ?hh20
  case hv20 => (go_simp; try with_reducible rfl)
  simp only [Act.put, List.setIfInBounds_toArray, List.set_cons_zero, List.set_cons_succ]
  refine take_op 21 26 ?v21 rfl rfl (by kernel_rfl) (fun _ _ _ h => h) (by rfl) hHeld (fun w' hS' => ?hv21) ?hh21
  case hv21 => (have k := hS'.k.f23; go_simp; try with_reducible rfl)
  simp only [Act.put, List.setIfInBounds_toArray, List.set_cons_zero, List.set_cons_succ]
  refine take_op 22 27 ?v22 rfl rfl (by kernel_rfl) (fun _ _ _ h => h) (by rfl) hHeld (fun w' hS' => ?hv22) ?hh22
  case hv22 => (go_simp; try with_reducible rfl)
  simp only [Act.put, List.setIfInBounds_toArray, List.set_cons_zero, List.set_cons_succ]
  refine take_op 23 28 ?v23 rfl rfl (by kernel_rfl) (fun _ _ _ h => h) (by rfl) hHeld (fun w' hS' => ?hv23) ?hh23
  case hv23 => (go_simp; try with_reducible rfl)
  simp only [Act.put, List.setIfInBounds_toArray, List.set_cons_zero, List.set_cons_succ]
  refine take_op 24 29 ?v24 rfl rfl (by kernel_rfl) (fun _ _ _ h => h) (by rfl) hHeld (fun w' hS' => ?hv24) ?hh24
  case hv24 => (go_simp; try with_reducible rfl)
  simp only [Act.put, List.setIfInBounds_toArray, List.set_cons_zero, List.set_cons_succ]
  refine take_op 25 30 ?v25 rfl rfl (by kernel_rfl) (fun _ _ _ h => h) (by rfl) hHeld (fun w' hS' => ?hv25) ?hh25
  case hv25 => (go_simp; try with_reducible rfl)
  simp only [Act.put, List.setIfInBounds_toArray, List.set_cons_zero, List.set_cons_succ]
  refine take_op 26 31 ?v26 rfl rfl (by kernel_rfl) (fun _ _ _ h => h) (by rfl) hHeld (fun w' hS' => ?hv26) ?hh26
  case hv26 => (have k := hS'.k.f17; go_simp; try with_reducible rfl)
  simp only [Act.put, List.setIfInBounds_toArray, List.set_cons_zero, List.set_cons_succ]
  refine take_op 27 32 ?v27 rfl rfl (by kernel_rfl) (fun _ _ _ h => h) (by rfl) hHeld (fun w' hS' => ?hv27) ?hh27
  case hv27 => (go_simp; try with_reducible rfl)
  simp only [Act.put, List.setIfInBounds_toArray, List.set_cons_zero, List.set_cons_succ]
  refine take_op 28 33 ?v28 rfl rfl (by kernel_rfl) (fun _ _ _ h => h) (by rfl) hHeld (fun w' hS' => ?hv28) ?hh28
  case hv28 => (go_simp; try with_reducible rfl)
  simp only [Act.put, List.setIfInBounds_toArray, List.set_cons_zero, List.set_cons_succ]
  refine take_op 29 34 ?v29 rfl rfl (by kernel_rfl) (fun _ _ _ h => h) (by rfl) hHeld (fun w' hS' => ?hv29) ?hh29
  case hv29 => (go_simp; try with_reducible rfl)
  simp only [Act.put, List.setIfInBounds_toArray, List.set_cons_zero, List.set_cons_succ]
  refine take_op 30 35 ?v30 rfl rfl (by kernel_rfl) (fun _ _ _ h => h) (by rfl) hHeld (fun w' hS' => ?hv30) ?hh30
  case hv30 => (go_simp; try with_reducible rfl)
  simp only [Act.put, List.setIfInBounds_toArray, List.set_cons_zero, List.set_cons_succ]
  refine take_op 31 36 ?v31 rfl rfl (by kernel_rfl) (fun _ _ _ h => h) (by rfl) hHeld (fun w' hS' => ?hv31) ?hh31
  case hv31 => (have k := hS'.k.f18; go_simp; try with_reducible rfl)
  simp only [Act.put, List.setIfInBounds_toArray, List.set_cons_zero, List.set_cons_succ]
  refine take_op 32 37 ?v32 rfl rfl (by kernel_rfl) (fun _ _ _ h => h) (by rfl) hHeld (fun w' hS' => ?hv32) ?hh32
  case hv32 => (go_simp; try with_reducible rfl)
  simp only [Act.put, List.setIfInBounds_toArray, List.set_cons_zero, List.set_cons_succ]
  refine take_op 33 38 ?v33 rfl rfl (by kernel_rfl) (fun _ _ _ h => h) (by rfl) hHeld (fun w' hS' => ?hv33) ?hh33
  case hv33 => (go_simp; try with_reducible rfl)
  simp only [Act.put, List.setIfInBounds_toArray, List.set_cons_zero, List.set_cons_succ]
  refine take_op 34 39 ?v34 rfl rfl (by kernel_rfl) (fun _ _ _ h => h) (by rfl) hHeld (fun w' hS' => ?hv34) ?hh34
  case hv34 => (go_simp; try with_reducible rfl)
  simp only [Act.put, List.setIfInBounds_toArray, List.set_cons_zero, List.set_cons_succ]
  refine take_op 35 40 ?v35 rfl rfl (by kernel_rfl) (fun _ _ _ h => h) (by rfl) hHeld (fun w' hS' => ?hv35) ?hh35
  case hv35 => (have k := hS'.k.f24; go_simp; try with_reducible rfl)
  simp only [Act.put, List.setIfInBounds_toArray, List.set_cons_zero, List.set_cons_succ]
  refine take_op 38 43 ?v38 rfl rfl (by kernel_rfl) (fun _ _ _ h => h) (by rfl) hHeld (fun w' hS' => ?hv38) ?hh38
  case hv38 => (go_simp; try with_reducible rfl)
  simp only [Act.put, List.setIfInBounds_toArray, List.set_cons_zero, List.set_cons_succ]
  refine take_op 39 44 ?v39 rfl rfl (by kernel_rfl) (fun _ _ _ h => h) (by rfl) hHeld (fun w' hS' => ?hv39) ?hh39
  case hv39 => (go_simp; try with_reducible rfl)
  simp only [Act.put, List.setIfInBounds_toArray, List.set_cons_zero, List.set_cons_succ]
  refine take_op 40 45 ?v40 rfl rfl (by kernel_rfl) (fun _ _ _ h => h) (by rfl) hHeld (fun w' hS' => ?hv40) ?hh40
  case hv40 => (have k := hS'.k.f19; go_simp; try with_reducible rfl)
  simp only [Act.put, List.setIfInBounds_toArray, List.set_cons_zero, List.set_cons_succ]
  refine only_op 36 rfl (by kernel_rfl) (by rfl) (wp_call_ex 41 71 #[.slice a.pa p.ps.length a.pc] _ rfl (by go_simp) (HW1.out _ hHeld) ?_)
  rintro e _ ⟨m41, rfl, _, _, n41, rfl⟩
  have hH1 := hHeld.below (below_drewN (Below.refl _ _) n41)
  refine ⟨_, rfl, hH1, ?_⟩
  simp only [Act.put, List.setIfInBounds_toArray, List.set_cons_zero, List.set_cons_succ]
  refine take_op 37 42 ?v37a rfl rfl (by kernel_rfl) (fun _ _ _ h => h) (by rfl) hH1 (fun w' hS' => ?hv37a) ?hh37a
  case hv37a => (go_simp; try with_reducible rfl)
  simp only [Act.put, List.setIfInBounds_toArray, List.set_cons_zero, List.set_cons_succ]
  refine only_op 41 rfl (by kernel_rfl) (by rfl) (wp_call_ex 46 71 #[.slice a.wa p.w.ps.length a.wc] _ rfl (by go_simp) (HW2.out _ hH1) ?_)
  rintro e _ ⟨m46, rfl, _, _, n46, rfl⟩
  have hH2 := hH1.below (below_drewN (Below.refl _ _) n46)
  refine ⟨_, rfl, hH2, ?_⟩
  simp only [Act.put, List.setIfInBounds_toArray, List.set_cons_zero, List.set_cons_succ]
  refine take_op 42 47 ?v42a rfl rfl (by kernel_rfl) (fun _ _ _ h => h) (by rfl) hH2 (fun w' hS' => ?hv42a) ?hh42a
  case hv42a => (go_simp; try with_reducible rfl)
  simp only [Act.put, List.setIfInBounds_toArray, List.set_cons_zero, List.set_cons_succ]
  refine take_op 43 3 ?v43a rfl rfl (by kernel_rfl) (fun _ _ _ h => h) (by rfl) hH2 (fun w' hS' => ?hv43a) ?hh43a
  case hv43a => (go_simp; try with_reducible rfl)
  simp only [Act.put, List.setIfInBounds_toArray, List.set_cons_zero, List.set_cons_succ]
  refine wpAnyH_done (by kernel_rfl) ?_ _
  have HK2 := Lib.hid hH2
  clear hHeld hH1 hH2
  generalize World.drewN (World.drewN _ _) _ = wz at HK2 ⊢
  generalize IntKind.wrap .i64 _ = N0
  go_wp2_with fail
  go_loopw [3, 4] (fun m i wr => ∃ (k : Nat) (N : Int), k ≤ p.fs.length ∧ i = .int .i64 (k : Int) ∧ m = .int .i64 N ∧ KP w g p a wr) (fun _ i _ => p.fs.length - (RowKit.intOf i).toNat)
  case atStart => exact ⟨0, N0, Nat.zero_le _, rfl, rfl, HK2.out⟩
  case round =>
    obtain ⟨k, N, hk, rfl, rfl, hkp⟩ := hrel
    have HK3 := Lib.hid hkp
    clear hkp HK2
    have c10 := HK3.out.k.f10
    by_cases hlt : k < p.fs.length
    · have hkI : (k : Int) < (p.fs.length : Int) := by omega
      by_cases hgo : N < 1048576
      · obtain ⟨b0, o, hfa, _, hc⟩ := HK3.out.out.2.fs.some_ (by omega)
        obtain ⟨d0, _, _, _, _⟩ := hc k hlt
        rw [hfa] at c10
        clear hfa hc
        go_wp2
        go_roundw
        case rel => exact ⟨k + 1, _, hlt, by go_num, rfl, HK3.out⟩
        case measure => simp [RowKit.intOf]; omega
      · have hd : decide (N < 1048576) = false := decide_eq_false hgo
        go_wp2
        go_ret
        exact ⟨⟨_, rfl⟩, HK3.out.b⟩
    · have hd : decide (k < p.fs.length) = false := decide_eq_false hlt
      have hd2 : decide ((k : Int) < (p.fs.length : Int)) = false := decide_eq_false (by omega)
      go_wp2
      go_ret
      exact ⟨⟨_, rfl⟩, HK3.out.b⟩
end Go.Proofs.YtiancngpknnkaaaGreat
namespace Go.Proofs.YtiancngpknnkaaaGreat.Pkt
open Go.Lib Vbi Prp
inductive Res (α : Type)
  | ok (v : α) (s : ByteArray)
  | bad (e : Int)
inductive St
  | ok (s : ByteArray)
  | bad (e : Int)
def Res.st {α : Type} : Res α → St
  | .ok _ s => .ok s
  | .bad e => .bad e
def Res.val {α : Type} (z : α) : Res α → α
  | .ok v _ => v
  | .bad _ => z
def St.run {α : Type} (st : St) (f : ByteArray → Res α) : Res α :=
  match st with
  | .ok s => f s
  | .bad e => .bad e
def St.want (st : St) (b : Bool) (e : Int) : St :=
  match st with
  | .ok s => if b = true then .ok s else .bad e
  | .bad e' => .bad e'
def St.rest : St → ByteArray
  | .ok s => s
  | .bad _ => ⟨#[]⟩
def St.err : St → Int
  | .ok _ => 0
  | .bad e => e
def St.isBad : St → Bool
  | .ok _ => false
  | .bad _ => true
def St.more (st : St) : Bool := decide (st.rest.size ≠ 0)
def St.Wf : St → Prop
  | .ok s => s.size ≤ 268435456
  | .bad e => e ≠ 0
def Res.Wf {α : Type} : Res α → Prop
  | .ok _ s => s.size ≤ 268435456
  | .bad e => e ≠ 0
theorem Res.Wf.st {α : Type} {r : Res α} (h : r.Wf) : r.st.Wf := by cases r <;> exact h
theorem want_true (st : St) (e : Int) : st.want true e = st := by cases st <;> rfl
theorem run_ok {α : Type} (f : ByteArray → Res α) (s : ByteArray) : (St.ok s).run f = f s := rfl
theorem St.Wf.want {st : St} (h : st.Wf) (b : Bool) {e : Int} (he : e ≠ 0) : (st.want b e).Wf := by
  cases st with
  | ok s => cases b with
    | false => exact he
    | true => exact h
  | bad e => exact h
def fixR (wd : Nat) (s : ByteArray) : Res Int := if s.size < wd then .bad 8 else .ok (fixVal (s.data.toList.take wd) : Nat) (s.extract wd s.size)
def octetR (s : ByteArray) : Res Int := fixR 1 s
def shortR (s : ByteArray) : Res Int := fixR 2 s
def numberR (s : ByteArray) : Res Int := if s.size < 2 then .bad 8 else if fixVal (s.data.toList.take 2) = 0 then .bad 8 else .ok (fixVal (s.data.toList.take 2) : Nat) (s.extract 2 s.size)
def longR (t : Bool) (s : ByteArray) : Res ByteArray := if (tl t s).2.2 = 0 then .ok (tl t s).1 (s.extract (tl t s).2.1.toNat s.size) else .bad (inn (tl t s).2.2)
def propsR (place : Int) (s : ByteArray) : Res (List P) := if (takeP place s).2.2 = 0 then .ok (takeP place s).1 (s.extract (takeP place s).2.1.toNat s.size) else .bad (inn (takeP place s).2.2)
theorem inn_ne {e : Int} (h : e ≠ 0) : inn e ≠ 0 := fun x => h (inn_zero.1 x)
theorem fixR_wf {wd : Nat} {s : ByteArray} (h : s.size ≤ 268435456) : (fixR wd s).Wf := by
  unfold fixR; split
  · show (8 : Int) ≠ 0; decide
  · show (s.extract wd s.size).size ≤ _; rw [ByteArray.size_extract]; omega
theorem numberR_wf {s : ByteArray} (h : s.size ≤ 268435456) : (numberR s).Wf := by
  unfold numberR; split
  · show (8 : Int) ≠ 0; decide
  · split
    · show (8 : Int) ≠ 0; decide
    · show (s.extract 2 s.size).size ≤ _; rw [ByteArray.size_extract]; omega
theorem longR_wf {t : Bool} {s : ByteArray} (h : s.size ≤ 268435456) : (longR t s).Wf := by
  unfold longR; split
  · show (s.extract _ s.size).size ≤ _; rw [ByteArray.size_extract]; omega
  · next c => exact inn_ne c
theorem propsR_wf {place : Int} {s : ByteArray} (h : s.size ≤ 268435456) : (propsR place s).Wf := by
  unfold propsR; split
  · show (s.extract _ s.size).size ≤ _; rw [ByteArray.size_extract]; omega
  · next c => exact inn_ne c
theorem run_wf {α : Type} {st : St} {f : ByteArray → Res α} (h : st.Wf) (hf : ∀ s : ByteArray, s.size ≤ 268435456 → (f s).Wf) : (st.run f).Wf := by
  cases st with
  | ok s => exact hf s h
  | bad e => exact h
theorem octet_range (st : St) : 0 ≤ (st.run octetR).val 0 ∧ (st.run octetR).val 0 ≤ 255 := by
  cases st with
  | bad e => exact ⟨Int.le_refl _, show (0 : Int) ≤ 255 by decide⟩
  | ok s =>
    show 0 ≤ (fixR 1 s).val 0 ∧ (fixR 1 s).val 0 ≤ 255
    unfold fixR
    split
    · exact ⟨Int.le_refl _, show (0 : Int) ≤ 255 by decide⟩
    · show (0 : Int) ≤ (fixVal (s.data.toList.take 1) : Nat) ∧ ((fixVal (s.data.toList.take 1) : Nat) : Int) ≤ 255
      have h1 := fixVal_one s.data.toList
      omega
def St.optR {α : Type} (st : St) (f : ByteArray → Res α) (z : α) : α × St := if st.more = true then ((st.run f).val z, (st.run f).st) else (z, st)
def ackS (p : Pk) (st : St) : Pk × St :=
  let r0 := st.run octetR
  let r1 := (r0.st.want (decide (r0.val 0 ≤ 1)) 8).run octetR
  let r2 := r1.st.run (propsR p.kind)
  ({ p with pre := decide (r0.val 0 = 1), re := r1.val 0, ps := r2.val [] }, r2.st)
def reasonS (p : Pk) (st : St) : Pk × St :=
  let a := st.optR octetR p.re
  let b := a.2.optR (propsR p.kind) p.ps
  ({ p with re := a.1, ps := b.1 }, b.2)
def idReasonS (p : Pk) (st : St) : Pk × St :=
  let r := st.run numberR
  reasonS { p with id := r.val 0 } r.st
def bodyR (st : St) : ByteArray × St := ((st.want (decide (st.rest.size ≤ 1024)) 2).rest, match st.want (decide (st.rest.size ≤ 1024)) 2 with | .ok _ => .ok ⟨#[]⟩ | .bad e => .bad e)
def publishS (p : Pk) (st : St) : Pk × St :=
  let r0 := st.run (longR true)
  let r1 := if 0 < p.q then r0.st.run numberR else (match r0.st with | .ok s => .ok p.id s | .bad e => .bad e)
  let r2 := r1.st.run (propsR p.kind)
  ({ p with t := r0.val ⟨#[]⟩, id := if 0 < p.q then r1.val 0 else p.id, ps := r2.val [], b := (bodyR r2.st).1 }, (bodyR r2.st).2)
def cfB (n : Int) : Bool := decide (n % 2 = 0 ∧ n / 8 % 4 < 3 ∧ (n / 4 % 2 = 1 ∨ n / 8 % 4 = 0 ∧ n / 32 % 2 = 0))
def willOf (n : Int) : Wl := if n / 4 % 2 = 1 then ⟨true, n / 8 % 4, decide (n / 32 % 2 = 1), ⟨#[]⟩, ⟨#[]⟩, []⟩ else zw
def willS (w : Wl) (st : St) : Wl × St :=
  if w.has = true then
    let r0 := st.run (propsR 0)
    let r1 := r0.st.run (longR true)
    let r2 := (r1.st.want (decide (r1.val ⟨#[]⟩ ≠ ⟨#[]⟩)) 8).run (longR false)
    ({ w with ps := r0.val [], t := r1.val ⟨#[]⟩, b := r2.val ⟨#[]⟩ }, r2.st)
  else (w, st)
def ifR (b : Bool) (t : Bool) (st : St) : ByteArray × St := if b = true then ((st.run (longR t)).val ⟨#[]⟩, (st.run (longR t)).st) else (⟨#[]⟩, st)
def connHead (st : St) : St :=
  let r0 := st.run (longR true)
  let r1 := (r0.st.want (decide (r0.val ⟨#[]⟩ = mqtt)) 9).run octetR
  r1.st.want (decide (r1.val 0 = 5)) 9
def connFlags (st : St) : Int := ((connHead st).run octetR).val 0
def connSt (st : St) : St := ((connHead st).run octetR).st.want (cfB (connFlags st)) 8
def withFlags (p : Pk) (n : Int) (w : Wl) : Pk := { p with clean := decide (n / 2 % 2 = 1), hp := decide (n / 64 % 2 = 1), hu := decide (n / 128 = 1), w := w }
def connRest (p : Pk) (st : St) : Pk × St :=
  let r3 := st.run shortR
  let r4 := r3.st.run (propsR p.kind)
  let r5 := r4.st.run (longR true)
  let w := willS p.w r5.st
  let a := ifR p.hu true w.2
  let b := ifR p.hp false a.2
  ({ p with keep := r3.val 0, ps := r4.val [], cl := r5.val ⟨#[]⟩, w := w.1, u := a.1, pw := b.1 }, b.2)
def connectS (p : Pk) (st : St) : Pk × St := connRest (withFlags p (connFlags st) (willOf (connFlags st))) (connSt st)
def manyR {α : Type} (one : ByteArray → Res α) : Nat → List α → ByteArray → Res (List α)
  | 0, l, s => .ok l s
  | f + 1, l, s => if s.size = 0 then (if l.length = 0 then .bad 9 else .ok l s) else if l.length = 4 then .bad 2 else match one s with
    | .ok v s' => manyR one f (l ++ [v]) s'
    | .bad e => .bad e
def filOf (t : ByteArray) (n : Int) : Fl := ⟨t, n % 4, decide (n / 4 % 2 = 1), decide (n / 8 % 2 = 1), n / 16⟩
def filterS (sub : Bool) (st : St) : Fl × St :=
  let r0 := st.run (longR true)
  if sub = true then
    let r1 := r0.st.run octetR
    let n := r1.val 0
    (filOf (r0.val ⟨#[]⟩) n, r1.st.want (decide (n % 4 < 3 ∧ n / 16 < 3)) 9)
  else (⟨r0.val ⟨#[]⟩, 0, false, false, 0⟩, r0.st)
def filterR (sub : Bool) (s : ByteArray) : Res Fl := match filterS sub (.ok s) with
  | (f, .ok s') => .ok f s'
  | (_, .bad e) => .bad e
def askS (sub : Bool) (p : Pk) (st : St) : Pk × St :=
  let r0 := st.run numberR
  let r1 := r0.st.run (propsR p.kind)
  let r2 := r1.st.run (manyR (filterR sub) 5 [])
  ({ p with id := r0.val 0, ps := r1.val [], fs := r2.val [] }, r2.st)
def codesS (p : Pk) (st : St) : Pk × St :=
  let r0 := st.run numberR
  let r1 := r0.st.run (propsR p.kind)
  let r2 := r1.st.run (manyR octetR 5 [])
  ({ p with id := r0.val 0, ps := r1.val [], cs := r2.val [] }, r2.st)
def partsS (p : Pk) (st : St) : Pk × St :=
  if p.kind = 1 then connectS p st
  else if p.kind = 2 then ackS p st
  else if p.kind = 3 then publishS p st
  else if p.kind = 4 ∨ p.kind = 5 ∨ p.kind = 6 ∨ p.kind = 7 then idReasonS p st
  else if p.kind = 8 then askS true p st
  else if p.kind = 10 then askS false p st
  else if p.kind = 9 ∨ p.kind = 11 then codesS p st
  else if p.kind = 14 ∨ p.kind = 15 then reasonS p st
  else (p, st)
def headP (c : Int) : Pk := if c / 16 = 3 then { zp 3 with dup := decide (8 ≤ c % 16), q := c % 16 / 2 % 4, ret := decide (c % 2 = 1) } else zp (c / 16)
def headB (c : Int) : Bool := decide (c / 16 ≠ 0) && (if c / 16 = 3 then sendB (headP c).dup (headP c).q else decide (flagsZ (headP c) = c % 16))
def bodyS (c : Int) (s : ByteArray) : Pk × St :=
  let r := partsS (headP c) (if headB c = true then .ok s else .bad 8)
  (r.1, r.2.want (decide (r.2.rest.size = 0)) 8)
def takeS (s : ByteArray) : Pk × Int × Int :=
  if s.size = 0 then (zp 0, 0, 7)
  else if (tn (s.extract 1 s.size).data.toList).2.2 ≠ 0 then (zp 0, 0, (tn (s.extract 1 s.size).data.toList).2.2)
  else if 8192 < 1 + (tn (s.extract 1 s.size).data.toList).2.1 + (tn (s.extract 1 s.size).data.toList).1 then (zp 0, 0, 2)
  else if (s.size : Int) < 1 + (tn (s.extract 1 s.size).data.toList).2.1 + (tn (s.extract 1 s.size).data.toList).1 then (zp 0, 0, 7)
  else match bodyS (idOf s) (s.extract (1 + (tn (s.extract 1 s.size).data.toList).2.1).toNat (1 + (tn (s.extract 1 s.size).data.toList).2.1 + (tn (s.extract 1 s.size).data.toList).1).toNat) with
    | (p, .ok _) => (p, 1 + (tn (s.extract 1 s.size).data.toList).2.1 + (tn (s.extract 1 s.size).data.toList).1, 0)
    | (_, .bad e) => (zp 0, 0, e)
theorem ifR_bad (b t : Bool) (e : Int) : (ifR b t (.bad e)).2 = .bad e := by unfold ifR; split <;> rfl
theorem willS_bad (w : Wl) (e : Int) : (willS w (.bad e)).2 = .bad e := by unfold willS; split <;> rfl
theorem connRest_bad (p : Pk) (e : Int) : (connRest p (.bad e)).2 = .bad e := by
  show (ifR p.hp false (ifR p.hu true (willS p.w (.bad e)).2).2).2 = _
  rw [willS_bad, ifR_bad, ifR_bad]
theorem parts_bad (p : Pk) (e : Int) : (partsS p (.bad e)).2 = .bad e := by
  unfold partsS
  by_cases h1 : p.kind = 1
  · rw [if_pos h1]; exact connRest_bad _ e
  rw [if_neg h1]
  by_cases h2 : p.kind = 2
  · rw [if_pos h2]; rfl
  rw [if_neg h2]
  by_cases h3 : p.kind = 3
  · rw [if_pos h3]; unfold publishS; by_cases hq : 0 < p.q
    · simp only [if_pos hq]; rfl
    · simp only [if_neg hq]; rfl
  rw [if_neg h3]
  by_cases h4 : p.kind = 4 ∨ p.kind = 5 ∨ p.kind = 6 ∨ p.kind = 7
  · rw [if_pos h4]; rfl
  rw [if_neg h4]
  by_cases h8 : p.kind = 8
  · rw [if_pos h8]; rfl
  rw [if_neg h8]
  by_cases h10 : p.kind = 10
  · rw [if_pos h10]; rfl
  rw [if_neg h10]
  by_cases h9 : p.kind = 9 ∨ p.kind = 11
  · rw [if_pos h9]; rfl
  rw [if_neg h9]
  by_cases h14 : p.kind = 14 ∨ p.kind = 15
  · rw [if_pos h14]; rfl
  rw [if_neg h14]
end Go.Proofs.YtiancngpknnkaaaGreat.Pkt
