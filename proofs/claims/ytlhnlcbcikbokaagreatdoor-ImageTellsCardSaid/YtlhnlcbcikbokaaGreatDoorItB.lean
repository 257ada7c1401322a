import Derived.Test.YtlhnlcbcikbokaaGreatDoorItA
set_option linter.unusedVariables false
set_option maxRecDepth 100000
namespace Go.Proofs.YtlhnlcbcikbokaaGreatDoor
open Go.Lift
def Tz0:LT:={ live:=[(4,[0,3]),(9,[0,3,4])],keep:=[] }
noncomputable def Ez0:Env2:={ tab:=tab,fs:=[],inl:=[] }
noncomputable def ez0_1 (v:Y6×Int×Int):St:={ s:=[(0,(.val ⟨Z11,v.1⟩)),(3,(.val ⟨Z2,v.2.1⟩)),(4,(.val ⟨Z2,v.2.2⟩))],l:=[],k:=[],b:=4096 }
noncomputable def ez0_0 (v:Y6×Int):St:={ s:=[(0,(.val ⟨Z11,v.1⟩)),(3,(.val ⟨Z2,v.2⟩))],l:=[],k:=[],b:=4096 }
def href04_Great_1 (self0:Y6×Int→Option (Bool)) (self1:Y6×Int×Int→Option (Bool)) (v:Y6×Int×Int):Option (Bool):=
 ((getI v.1 v.2.1).bind fun x2=>(bif (decide (v.2.2 < (List.length x2.2.2.2.1:Int))) then ((getI v.1 v.2.1).bind fun x3=>((getI x3.2.2.2.1 v.2.2).bind fun x4=>(bif (decide ((List.length x4.1:Int) > (100:Int))) then (some true) else (let x5:Int:=(IntKind.i64.wrap (v.2.2+(1:Int)));(self1 (v.1,v.2.1,x5)))))) else (let x6:Int:=(IntKind.i64.wrap (v.2.1+(1:Int)));(self0 (v.1,x6)))))
def gref04_Great_1 (N:Nat) (self0:Y6×Int→Option (Bool)) (self1:Y6×Int×Int→Option (Bool)) (v:Y6×Int×Int):Option (Bool):=href04_Great_1 self0 self1 v
theorem kz0_1 (N:Nat) (s0:St→Option (Bool)) (s1:St→Option (Bool)) (v):(floc (Ez0) Tz0 6 N Tryz.f32 [.bool] [false] [] 1 (outerR s0 nowhereR)) s1 (ez0_1 v)=href04_Great_1 (fun v=>s0 (ez0_0 v)) (fun v=>s1 (ez0_1 v)) v:=by kernel_rfl
theorem bz0_1 (N:Nat) (s0:St→Option (Bool)) (s1:St→Option (Bool)) (v):(floc (Ez0) Tz0 6 N Tryz.f32 [.bool] [false] [] 1 (outerR s0 nowhereR)) s1 (ez0_1 v)=gref04_Great_1 N (fun v=>s0 (ez0_0 v)) (fun v=>s1 (ez0_1 v)) v:=kz0_1 N s0 s1 v
def href04_Great_0 (loop1:Y6×Int×Int→Option (Bool)) (self0:Y6×Int→Option (Bool)) (v:Y6×Int):Option (Bool):=
 (bif (decide (v.2 < (List.length v.1:Int))) then ((getI v.1 v.2).bind fun x1=>(bif (decide ((List.length x1.2.2.2.1:Int) > (20:Int))) then (some true) else (loop1 (v.1,v.2,(0:Int))))) else (some false))
def gref04_Great_0 (N:Nat) (self0:Y6×Int→Option (Bool)) (v:Y6×Int):Option (Bool):=href04_Great_0 (iterV (gref04_Great_1 N self0) N) self0 v
theorem kz0_0 (N:Nat) (s0:St→Option (Bool)) (v):(floc (Ez0) Tz0 6 N Tryz.f32 [.bool] [false] [] 0 nowhereR) s0 (ez0_0 v)=href04_Great_0 (fun v=>iterR (floc (Ez0) Tz0 6 N Tryz.f32 [.bool] [false] [] 1 (outerR s0 nowhereR)) N (ez0_1 v)) (fun v=>s0 (ez0_0 v)) v:=by kernel_rfl
theorem bz0_0 (N:Nat) (s0:St→Option (Bool)) (v):(floc (Ez0) Tz0 6 N Tryz.f32 [.bool] [false] [] 0 nowhereR) s0 (ez0_0 v)=gref04_Great_0 N (fun v=>s0 (ez0_0 v)) v:=(kz0_0 N s0 v).trans (by rw [funext (iterR_eq ez0_1 (bz0_1 N s0) N)];rfl)
def nref04_Great (loop0:Y6×Int→Option (Bool)) (x:Y6):Option (Bool):=
 (bif (decide ((List.length x:Int) > (40:Int))) then (some true) else (loop0 (x,(0:Int))))
def mref04_Great (N:Nat) (x:Y6):Option (Bool):=nref04_Great (iterV (gref04_Great_0 N) N) x
theorem jz0 (N:Nat) (x:Y6):rise (Ez0) Tz0 6 N Tryz.f32 [Z11] [.bool] [false] x=nref04_Great (fun v=>iterR (floc (Ez0) Tz0 6 N Tryz.f32 [.bool] [false] [] 0 nowhereR) N (ez0_0 v)) x:=by kernel_rfl
theorem lz0 (N:Nat) (x:Y6):rise (Ez0) Tz0 6 N Tryz.f32 [Z11] [.bool] [false] x=mref04_Great N x:=(jz0 N x).trans (by rw [funext (iterR_eq ez0_0 (bz0_0 N) N)];rfl)
def cref04_Great (x:Y6):Option (Bool):=mref04_Great big x
def Gz0:Fn2:=⟨[Z11],[.bool],[false],fun x=>cref04_Great x⟩
theorem Lz0:Rises Tryz.prog 32 Gz0:=rises_of (E:=Ez0) ⟨tabOk,fsNil2,fun _ _ _=>rfl,mixed,inlNil,rcsNil,owsNil⟩ Tryz.func32 rfl (by decide) (by kernel_rfl) (by kernel_rfl) (by kernel_rfl) (by kernel_rfl) (fun x r _ h=>⟨Tz0,6,big,(lz0 big x).trans h⟩)
def Tz1:LT:={ live:=[(4,[1,3]),(10,[1,4,5]),(17,[1,4,5,6,7])],keep:=[] }
noncomputable def Ez1:Env2:={ tab:=tab,fs:=[(32,Gz0)],inl:=[] }
noncomputable def ez1_2 (v:Int×Int×Int×Y0×Y1):St:={ s:=[(1,(.loc 0 [])),(4,(.val ⟨Z2,v.1⟩)),(5,(.val ⟨Z2,v.2.1⟩)),(6,(.loc 1 [])),(7,(.val ⟨Z2,v.2.2.1⟩))],l:=[(0,.var Z3 (.val ⟨Z3,v.2.2.2.1⟩)),(1,.var Z0 (.val ⟨Z0,v.2.2.2.2⟩))],k:=[],b:=4096 }
noncomputable def ez1_1 (v:Int×Int×Y0):St:={ s:=[(1,(.loc 0 [])),(4,(.val ⟨Z2,v.1⟩)),(5,(.val ⟨Z2,v.2.1⟩))],l:=[(0,.var Z3 (.val ⟨Z3,v.2.2⟩))],k:=[],b:=4096 }
noncomputable def ez1_0 (v:Int×Y0):St:={ s:=[(1,(.loc 0 [])),(3,(.val ⟨Z2,v.1⟩))],l:=[(0,.var Z3 (.val ⟨Z3,v.2⟩))],k:=[],b:=4096 }
def href09_Great_2 (self0:Int×Y0→Option (Bool)) (self1:Int×Int×Y0→Option (Bool)) (self2:Int×Int×Int×Y0×Y1→Option (Bool)) (v:Int×Int×Int×Y0×Y1):Option (Bool):=
 (bif (decide (v.2.2.1 < (List.length v.2.2.2.2.2.2.2.1:Int))) then ((getI v.2.2.2.2.2.2.2.1 v.2.2.1).bind fun x6=>(bif (decide ((List.length x6.1:Int) > (100:Int))) then (some true) else (let x7:Int:=(IntKind.i64.wrap (v.2.2.1+(1:Int)));(self2 (v.1,v.2.1,x7,v.2.2.2.1,v.2.2.2.2))))) else (let x8:Int:=(IntKind.i64.wrap (v.2.1+(1:Int)));(self1 (v.1,x8,v.2.2.2.1))))
def gref09_Great_2 (N:Nat) (self0:Int×Y0→Option (Bool)) (self1:Int×Int×Y0→Option (Bool)) (self2:Int×Int×Int×Y0×Y1→Option (Bool)) (v:Int×Int×Int×Y0×Y1):Option (Bool):=href09_Great_2 self0 self1 self2 v
theorem kz1_2 (N:Nat) (s0:St→Option (Bool)) (s1:St→Option (Bool)) (s2:St→Option (Bool)) (v):(floc (Ez1) Tz1 6 N Tryz.f18 [.bool] [false] [] 2 (outerR s1 nowhereR)) s2 (ez1_2 v)=href09_Great_2 (fun v=>s0 (ez1_0 v)) (fun v=>s1 (ez1_1 v)) (fun v=>s2 (ez1_2 v)) v:=by kernel_rfl
theorem bz1_2 (N:Nat) (s0:St→Option (Bool)) (s1:St→Option (Bool)) (s2:St→Option (Bool)) (v):(floc (Ez1) Tz1 6 N Tryz.f18 [.bool] [false] [] 2 (outerR s1 nowhereR)) s2 (ez1_2 v)=gref09_Great_2 N (fun v=>s0 (ez1_0 v)) (fun v=>s1 (ez1_1 v)) (fun v=>s2 (ez1_2 v)) v:=kz1_2 N s0 s1 s2 v
def href09_Great_1 (loop2:Int×Int×Int×Y0×Y1→Option (Bool)) (self0:Int×Y0→Option (Bool)) (self1:Int×Int×Y0→Option (Bool)) (v:Int×Int×Y0):Option (Bool):=
 (bif (decide (v.2.1 < (List.length v.2.2.2.2.1:Int))) then ((getI v.2.2.2.2.1 v.2.1).bind fun x4=>(let x5:Int:=(IntKind.i64.wrap (v.1+(List.length x4.2.2.2.2.1:Int)));(bif (decide ((List.length x4.1:Int) > (100:Int))) then (some true) else (bif (decide ((List.length x4.2.2.2.1:Int) > (20:Int))) then (some true) else (bif (decide ((List.length x4.2.2.2.2.1:Int) > (210:Int))) then (some true) else (bif (decide ((List.length x4.2.2.2.2.2.1:Int) > (210:Int))) then (some true) else (bif (decide ((List.length x4.2.2.2.2.2.2.1:Int) > (210:Int))) then (some true) else (bif (decide (x5 > (1000:Int))) then (some true) else (loop2 (x5,v.2.1,(0:Int),v.2.2,x4)))))))))) else (some false))
def gref09_Great_1 (N:Nat) (self0:Int×Y0→Option (Bool)) (self1:Int×Int×Y0→Option (Bool)) (v:Int×Int×Y0):Option (Bool):=href09_Great_1 (iterV (gref09_Great_2 N self0 self1) N) self0 self1 v
theorem kz1_1 (N:Nat) (s0:St→Option (Bool)) (s1:St→Option (Bool)) (v):(floc (Ez1) Tz1 6 N Tryz.f18 [.bool] [false] [] 1 nowhereR) s1 (ez1_1 v)=href09_Great_1 (fun v=>iterR (floc (Ez1) Tz1 6 N Tryz.f18 [.bool] [false] [] 2 (outerR s1 nowhereR)) N (ez1_2 v)) (fun v=>s0 (ez1_0 v)) (fun v=>s1 (ez1_1 v)) v:=by kernel_rfl
theorem bz1_1 (N:Nat) (s0:St→Option (Bool)) (s1:St→Option (Bool)) (v):(floc (Ez1) Tz1 6 N Tryz.f18 [.bool] [false] [] 1 nowhereR) s1 (ez1_1 v)=gref09_Great_1 N (fun v=>s0 (ez1_0 v)) (fun v=>s1 (ez1_1 v)) v:=(kz1_1 N s0 s1 v).trans (by rw [funext (iterR_eq ez1_2 (bz1_2 N s0 s1) N)];rfl)
def href09_Great_0 (loop1:Int×Int×Y0→Option (Bool)) (self0:Int×Y0→Option (Bool)) (v:Int×Y0):Option (Bool):=
 (bif (decide (v.1 < (List.length v.2.2.1:Int))) then ((getI v.2.2.1 v.1).bind fun x2=>(bif (decide ((List.length x2:Int) > (100:Int))) then (some true) else (let x3:Int:=(IntKind.i64.wrap (v.1+(1:Int)));(self0 (x3,v.2))))) else (loop1 ((0:Int),(0:Int),v.2)))
def gref09_Great_0 (N:Nat) (self0:Int×Y0→Option (Bool)) (v:Int×Y0):Option (Bool):=href09_Great_0 (iterV (gref09_Great_1 N self0) N) self0 v
theorem kz1_0 (N:Nat) (s0:St→Option (Bool)) (v):(floc (Ez1) Tz1 6 N Tryz.f18 [.bool] [false] [] 0 nowhereR) s0 (ez1_0 v)=href09_Great_0 (fun v=>iterR (floc (Ez1) Tz1 6 N Tryz.f18 [.bool] [false] [] 1 nowhereR) N (ez1_1 v)) (fun v=>s0 (ez1_0 v)) v:=by kernel_rfl
theorem bz1_0 (N:Nat) (s0:St→Option (Bool)) (v):(floc (Ez1) Tz1 6 N Tryz.f18 [.bool] [false] [] 0 nowhereR) s0 (ez1_0 v)=gref09_Great_0 N (fun v=>s0 (ez1_0 v)) v:=(kz1_0 N s0 v).trans (by rw [funext (iterR_eq ez1_1 (bz1_1 N s0) N)];rfl)
def nref09_Great (loop0:Int×Y0→Option (Bool)) (x:Y0):Option (Bool):=
 ((cref04_Great x.1).bind fun x1=>(bif x1 then (some true) else (bif (decide ((List.length x.2.1:Int) > (40:Int))) then (some true) else (bif (decide ((List.length x.2.2.1:Int) > (40:Int))) then (some true) else (loop0 ((0:Int),x))))))
def mref09_Great (N:Nat) (x:Y0):Option (Bool):=nref09_Great (iterV (gref09_Great_0 N) N) x
theorem jz1 (N:Nat) (x:Y0):rise (Ez1) Tz1 6 N Tryz.f18 [Z3] [.bool] [false] x=nref09_Great (fun v=>iterR (floc (Ez1) Tz1 6 N Tryz.f18 [.bool] [false] [] 0 nowhereR) N (ez1_0 v)) x:=by kernel_rfl
theorem lz1 (N:Nat) (x:Y0):rise (Ez1) Tz1 6 N Tryz.f18 [Z3] [.bool] [false] x=mref09_Great N x:=(jz1 N x).trans (by rw [funext (iterR_eq ez1_0 (bz1_0 N) N)];rfl)
def cref09_Great (x:Y0):Option (Bool):=mref09_Great big x
def Gz1:Fn2:=⟨[Z3],[.bool],[false],fun x=>cref09_Great x⟩
theorem Lz1:Rises Tryz.prog 18 Gz1:=rises_of (E:=Ez1) ⟨tabOk,(fsCons2 Lz0 fsNil2),fun _ _ _=>rfl,mixed,inlNil,rcsNil,owsNil⟩ Tryz.func18 rfl (by decide) (by kernel_rfl) (by kernel_rfl) (by kernel_rfl) (by kernel_rfl) (fun x r _ h=>⟨Tz1,6,big,(lz1 big x).trans h⟩)
def Tz2:LT:={ live:=[(3,[0,3,4])],keep:=[] }
noncomputable def Ez2:Env2:={ tab:=tab,fs:=[],inl:=[] }
noncomputable def ez2_0 (v:Y6×Int×Y6):St:={ s:=[(0,(.val ⟨Z11,v.1⟩)),(3,(.row 0)),(4,(.val ⟨Z2,v.2.1⟩))],l:=[(0,.row Z1 v.2.2)],k:=[],b:=4096 }
def href04_Twin_0 (self0:Y6×Int×Y6→Option (Y6)) (v:Y6×Int×Y6):Option (Y6):=
 (bif (decide (v.2.1 < (List.length v.1:Int))) then ((getI v.1 v.2.1).bind fun x1=>(let x2:Y5:=([]:Y5);((getI v.1 v.2.1).bind fun x3=>(bif (Nat.ble 1 2&&Nat.ble (List.length x2+List.length x3.2.2.2.1) lim) then (let x4:Y5:=(List.append x2 x3.2.2.2.1);(let x5:Y6:=([(x1.1,(x1.2.1,(x1.2.2.1,(x4,x1.2.2.2.2))))]:Y6);(bif (Nat.ble 1 4&&Nat.ble (List.length v.2.2+List.length x5) lim) then (let x6:Int:=(IntKind.i64.wrap (v.2.1+(1:Int)));(self0 (v.1,x6,(List.append v.2.2 x5)))) else none))) else none)))) else (some v.2.2))
def gref04_Twin_0 (N:Nat) (self0:Y6×Int×Y6→Option (Y6)) (v:Y6×Int×Y6):Option (Y6):=href04_Twin_0 self0 v
theorem kz2_0 (N:Nat) (s0:St→Option (Y6)) (v):(floc (Ez2) Tz2 6 N Tryz.f33 [Z11] [true] [] 0 nowhereR) s0 (ez2_0 v)=href04_Twin_0 (fun v=>s0 (ez2_0 v)) v:=by kernel_rfl
theorem bz2_0 (N:Nat) (s0:St→Option (Y6)) (v):(floc (Ez2) Tz2 6 N Tryz.f33 [Z11] [true] [] 0 nowhereR) s0 (ez2_0 v)=gref04_Twin_0 N (fun v=>s0 (ez2_0 v)) v:=kz2_0 N s0 v
def nref04_Twin (loop0:Y6×Int×Y6→Option (Y6)) (x:Y6):Option (Y6):=
 (loop0 (x,(0:Int),([]:List Y2)))
def mref04_Twin (N:Nat) (x:Y6):Option (Y6):=nref04_Twin (iterV (gref04_Twin_0 N) N) x
theorem jz2 (N:Nat) (x:Y6):rise (Ez2) Tz2 6 N Tryz.f33 [Z11] [Z11] [true] x=nref04_Twin (fun v=>iterR (floc (Ez2) Tz2 6 N Tryz.f33 [Z11] [true] [] 0 nowhereR) N (ez2_0 v)) x:=by kernel_rfl
theorem lz2 (N:Nat) (x:Y6):rise (Ez2) Tz2 6 N Tryz.f33 [Z11] [Z11] [true] x=mref04_Twin N x:=(jz2 N x).trans (by rw [funext (iterR_eq ez2_0 (bz2_0 N) N)];rfl)
def cref04_Twin (x:Y6):Option (Y6):=mref04_Twin big x
def Gz2:Fn2:=⟨[Z11],[Z11],[true],fun x=>cref04_Twin x⟩
theorem Lz2:Rises Tryz.prog 33 Gz2:=rises_of (E:=Ez2) ⟨tabOk,fsNil2,fun _ _ _=>rfl,mixed,inlNil,rcsNil,owsNil⟩ Tryz.func33 rfl (by decide) (by kernel_rfl) (by kernel_rfl) (by kernel_rfl) (by kernel_rfl) (fun x r _ h=>⟨Tz2,6,big,(lz2 big x).trans h⟩)
def Tz65:LT:={ live:=[],keep:=[] }
noncomputable def Ez65:Env2:={ tab:=tab,fs:=[],inl:=[] }
def nref04_Letter (x:Int):Option (Bool):=
 (bif (decide (x≥(97:Int))) then (bif (decide (x≤(122:Int))) then (some true) else (bif (decide (x≥(65:Int))) then (some (decide (x≤(90:Int)))) else (some false))) else (bif (decide (x≥(65:Int))) then (some (decide (x≤(90:Int)))) else (some false)))
def mref04_Letter (N:Nat) (x:Int):Option (Bool):=nref04_Letter x
theorem jz65 (N:Nat) (x:Int):rise (Ez65) Tz65 6 N Tryz.f134 [Z9] [.bool] [false] x=nref04_Letter x:=by kernel_rfl
theorem lz65 (N:Nat) (x:Int):rise (Ez65) Tz65 6 N Tryz.f134 [Z9] [.bool] [false] x=mref04_Letter N x:=(jz65 N x).trans rfl
def cref04_Letter (x:Int):Option (Bool):=mref04_Letter big x
def Gz65:Fn2:=⟨[Z9],[.bool],[false],fun x=>cref04_Letter x⟩
theorem Lz65:Rises Tryz.prog 134 Gz65:=rises_of (E:=Ez65) ⟨tabOk,fsNil2,fun _ _ _=>rfl,mixed,inlNil,rcsNil,owsNil⟩ Tryz.func134 rfl (by decide) (by kernel_rfl) (by kernel_rfl) (by kernel_rfl) (by kernel_rfl) (fun x r _ h=>⟨Tz65,6,big,(lz65 big x).trans h⟩)
def Tz66:LT:={ live:=[(4,[0,3])],keep:=[] }
noncomputable def Ez66:Env2:={ tab:=tab,fs:=[(134,Gz65)],inl:=[] }
noncomputable def ez66_0 (v:Y3×Int):St:={ s:=[(0,(.val ⟨.str,v.1⟩)),(3,(.val ⟨Z2,v.2⟩))],l:=[],k:=[],b:=4096 }
def href04_Named_0 (self0:Y3×Int→Option (Bool)) (v:Y3×Int):Option (Bool):=
 (bif (decide (v.2 < (List.length v.1:Int))) then ((getI v.1 v.2).bind fun x3=>((cref04_Letter x3).bind fun x4=>(bif (!x4) then ((getI v.1 v.2).bind fun x5=>(bif (decide (x5 < (48:Int))) then (some false) else ((getI v.1 v.2).bind fun x6=>(bif (decide (x6 > (57:Int))) then (some false) else (let x7:Int:=(IntKind.i64.wrap (v.2+(1:Int)));(self0 (v.1,x7))))))) else (let x8:Int:=(IntKind.i64.wrap (v.2+(1:Int)));(self0 (v.1,x8)))))) else (some true))
def gref04_Named_0 (N:Nat) (self0:Y3×Int→Option (Bool)) (v:Y3×Int):Option (Bool):=href04_Named_0 self0 v
theorem kz66_0 (N:Nat) (s0:St→Option (Bool)) (v):(floc (Ez66) Tz66 6 N Tryz.f106 [.bool] [false] [] 0 nowhereR) s0 (ez66_0 v)=href04_Named_0 (fun v=>s0 (ez66_0 v)) v:=by kernel_rfl
theorem bz66_0 (N:Nat) (s0:St→Option (Bool)) (v):(floc (Ez66) Tz66 6 N Tryz.f106 [.bool] [false] [] 0 nowhereR) s0 (ez66_0 v)=gref04_Named_0 N (fun v=>s0 (ez66_0 v)) v:=kz66_0 N s0 v
def nref04_Named (loop0:Y3×Int→Option (Bool)) (x:Y3):Option (Bool):=
 (bif (decide ((List.length x:Int) < (1:Int))) then (some false) else (bif (decide ((List.length x:Int) > (16:Int))) then (some false) else ((getI x (0:Int)).bind fun x1=>((cref04_Letter x1).bind fun x2=>(bif (!x2) then (some false) else (loop0 (x,(0:Int))))))))
def mref04_Named (N:Nat) (x:Y3):Option (Bool):=nref04_Named (iterV (gref04_Named_0 N) N) x
theorem jz66 (N:Nat) (x:Y3):rise (Ez66) Tz66 6 N Tryz.f106 [.str] [.bool] [false] x=nref04_Named (fun v=>iterR (floc (Ez66) Tz66 6 N Tryz.f106 [.bool] [false] [] 0 nowhereR) N (ez66_0 v)) x:=by kernel_rfl
theorem lz66 (N:Nat) (x:Y3):rise (Ez66) Tz66 6 N Tryz.f106 [.str] [.bool] [false] x=mref04_Named N x:=(jz66 N x).trans (by rw [funext (iterR_eq ez66_0 (bz66_0 N) N)];rfl)
def cref04_Named (x:Y3):Option (Bool):=mref04_Named big x
def Gz66:Fn2:=⟨[.str],[.bool],[false],fun x=>cref04_Named x⟩
theorem Lz66:Rises Tryz.prog 106 Gz66:=rises_of (E:=Ez66) ⟨tabOk,(fsCons2 Lz65 fsNil2),fun _ _ _=>rfl,mixed,inlNil,rcsNil,owsNil⟩ Tryz.func106 rfl (by decide) (by kernel_rfl) (by kernel_rfl) (by kernel_rfl) (by kernel_rfl) (fun x r _ h=>⟨Tz66,6,big,(lz66 big x).trans h⟩)
def Tz67:LT:={ live:=[(4,[0,5]),(9,[0,5,6])],keep:=[] }
noncomputable def Ez67:Env2:={ tab:=tab,fs:=[(106,Gz66)],inl:=[] }
noncomputable def ez67_1 (v:Y5×Int×Int):St:={ s:=[(0,(.val ⟨Z6,v.1⟩)),(5,(.val ⟨Z2,v.2.1⟩)),(6,(.val ⟨Z2,v.2.2⟩))],l:=[],k:=[],b:=4096 }
noncomputable def ez67_0 (v:Y5×Int):St:={ s:=[(0,(.val ⟨Z6,v.1⟩)),(5,(.val ⟨Z2,v.2⟩))],l:=[],k:=[],b:=4096 }
def href04_Fields_1 (self0:Y5×Int→Option (Bool)) (self1:Y5×Int×Int→Option (Bool)) (v:Y5×Int×Int):Option (Bool):=
 (bif (decide (v.2.2 < v.2.1)) then ((getI v.1 v.2.2).bind fun x3=>((getI v.1 v.2.1).bind fun x4=>(bif (eqD .str x3.1 x4.1) then (some false) else (let x5:Int:=(IntKind.i64.wrap (v.2.2+(1:Int)));(self1 (v.1,v.2.1,x5)))))) else (let x6:Int:=(IntKind.i64.wrap (v.2.1+(1:Int)));(self0 (v.1,x6))))
def gref04_Fields_1 (N:Nat) (self0:Y5×Int→Option (Bool)) (self1:Y5×Int×Int→Option (Bool)) (v:Y5×Int×Int):Option (Bool):=href04_Fields_1 self0 self1 v
theorem kz67_1 (N:Nat) (s0:St→Option (Bool)) (s1:St→Option (Bool)) (v):(floc (Ez67) Tz67 6 N Tryz.f107 [.bool] [false] [] 1 (outerR s0 nowhereR)) s1 (ez67_1 v)=href04_Fields_1 (fun v=>s0 (ez67_0 v)) (fun v=>s1 (ez67_1 v)) v:=by kernel_rfl
theorem bz67_1 (N:Nat) (s0:St→Option (Bool)) (s1:St→Option (Bool)) (v):(floc (Ez67) Tz67 6 N Tryz.f107 [.bool] [false] [] 1 (outerR s0 nowhereR)) s1 (ez67_1 v)=gref04_Fields_1 N (fun v=>s0 (ez67_0 v)) (fun v=>s1 (ez67_1 v)) v:=kz67_1 N s0 s1 v
def href04_Fields_0 (loop1:Y5×Int×Int→Option (Bool)) (self0:Y5×Int→Option (Bool)) (v:Y5×Int):Option (Bool):=
 (bif (decide (v.2 < (List.length v.1:Int))) then ((getI v.1 v.2).bind fun x1=>((cref04_Named x1.1).bind fun x2=>(bif (!x2) then (some false) else (loop1 (v.1,v.2,(0:Int)))))) else (some true))
def gref04_Fields_0 (N:Nat) (self0:Y5×Int→Option (Bool)) (v:Y5×Int):Option (Bool):=href04_Fields_0 (iterV (gref04_Fields_1 N self0) N) self0 v
theorem kz67_0 (N:Nat) (s0:St→Option (Bool)) (v):(floc (Ez67) Tz67 6 N Tryz.f107 [.bool] [false] [] 0 nowhereR) s0 (ez67_0 v)=href04_Fields_0 (fun v=>iterR (floc (Ez67) Tz67 6 N Tryz.f107 [.bool] [false] [] 1 (outerR s0 nowhereR)) N (ez67_1 v)) (fun v=>s0 (ez67_0 v)) v:=by kernel_rfl
theorem bz67_0 (N:Nat) (s0:St→Option (Bool)) (v):(floc (Ez67) Tz67 6 N Tryz.f107 [.bool] [false] [] 0 nowhereR) s0 (ez67_0 v)=gref04_Fields_0 N (fun v=>s0 (ez67_0 v)) v:=(kz67_0 N s0 v).trans (by rw [funext (iterR_eq ez67_1 (bz67_1 N s0) N)];rfl)
def nref04_Fields (loop0:Y5×Int→Option (Bool)) (x:Y5×Int):Option (Bool):=
 (bif (decide ((List.length x.1:Int) > x.2)) then (some false) else (loop0 (x.1,(0:Int))))
def mref04_Fields (N:Nat) (x:Y5×Int):Option (Bool):=nref04_Fields (iterV (gref04_Fields_0 N) N) x
theorem jz67 (N:Nat) (x:Y5×Int):rise (Ez67) Tz67 6 N Tryz.f107 [Z6,Z2] [.bool] [false] x=nref04_Fields (fun v=>iterR (floc (Ez67) Tz67 6 N Tryz.f107 [.bool] [false] [] 0 nowhereR) N (ez67_0 v)) x:=by kernel_rfl
theorem lz67 (N:Nat) (x:Y5×Int):rise (Ez67) Tz67 6 N Tryz.f107 [Z6,Z2] [.bool] [false] x=mref04_Fields N x:=(jz67 N x).trans (by rw [funext (iterR_eq ez67_0 (bz67_0 N) N)];rfl)
def cref04_Fields (x:Y5×Int):Option (Bool):=mref04_Fields big x
def Gz67:Fn2:=⟨[Z6,Z2],[.bool],[false],fun x=>cref04_Fields x⟩
theorem Lz67:Rises Tryz.prog 107 Gz67:=rises_of (E:=Ez67) ⟨tabOk,(fsCons2 Lz66 fsNil2),fun _ _ _=>rfl,mixed,inlNil,rcsNil,owsNil⟩ Tryz.func107 rfl (by decide) (by kernel_rfl) (by kernel_rfl) (by kernel_rfl) (by kernel_rfl) (fun x r _ h=>⟨Tz67,6,big,(lz67 big x).trans h⟩)
def Tz68:LT:={ live:=[(14,[1,5,6])],keep:=[] }
noncomputable def Ez68:Env2:={ tab:=tab,fs:=[(107,Gz67)],inl:=[] }
noncomputable def ez68_0 (v:Int×Int×Y2):St:={ s:=[(1,(.val ⟨Z2,v.1⟩)),(5,(.loc 0 [])),(6,(.val ⟨Z2,v.2.1⟩))],l:=[(0,.var Z1 (.val ⟨Z1,v.2.2⟩))],k:=[],b:=4096 }
def href04_fine_0 (self0:Int×Int×Y2→Option (Bool)) (v:Int×Int×Y2):Option (Bool):=
 (bif (decide (v.2.1 < (List.length v.2.2.2.2.2.1:Int))) then ((getI v.2.2.2.2.2.1 v.2.1).bind fun x2=>(bif (decide (x2.2.1 < (0:Int))) then (some false) else ((getI v.2.2.2.2.2.1 v.2.1).bind fun x3=>(bif (decide (x3.2.1≥v.1)) then (some false) else (let x4:Int:=(IntKind.i64.wrap (v.2.1+(1:Int)));(self0 (v.1,x4,v.2.2))))))) else (bif (v.2.2.2.1==(0:Int)) then (bif (v.2.2.2.2.1==(0:Int)) then (bif (decide ((List.length v.2.2.2.2.2.1:Int) > (0:Int))) then ((cref04_Fields (v.2.2.2.2.2.1,(8:Int))).bind fun x5=>(some x5)) else (some false)) else (some false)) else (some false)))
def gref04_fine_0 (N:Nat) (self0:Int×Int×Y2→Option (Bool)) (v:Int×Int×Y2):Option (Bool):=href04_fine_0 self0 v
theorem kz68_0 (N:Nat) (s0:St→Option (Bool)) (v):(floc (Ez68) Tz68 6 N Tryz.f103 [.bool] [false] [] 0 nowhereR) s0 (ez68_0 v)=href04_fine_0 (fun v=>s0 (ez68_0 v)) v:=by kernel_rfl
theorem bz68_0 (N:Nat) (s0:St→Option (Bool)) (v):(floc (Ez68) Tz68 6 N Tryz.f103 [.bool] [false] [] 0 nowhereR) s0 (ez68_0 v)=gref04_fine_0 N (fun v=>s0 (ez68_0 v)) v:=kz68_0 N s0 v
def nref04_fine (loop0:Int×Int×Y2→Option (Bool)) (x:Y6×Int):Option (Bool):=
 ((getI x.1 x.2).bind fun x1=>(bif (x1.1==(1:Int)) then (bif (x1.1==(1:Int)) then (bif (x1.2.1==(0:Int)) then (bif (x1.2.2.1==(0:Int)) then (some ((List.length x1.2.2.2.1:Int)==(0:Int))) else (some false)) else (some false)) else (bif (x1.1==(4:Int)) then (bif (x1.1==(4:Int)) then (bif (decide (x1.2.1≥(0:Int))) then (bif (decide (x1.2.1 < (List.length x.1:Int))) then (bif (x1.2.2.1==(0:Int)) then (some ((List.length x1.2.2.2.1:Int)==(0:Int))) else (some false)) else (some false)) else (some false)) else (bif (x1.1==(6:Int)) then (bif (decide (x1.2.1≥(0:Int))) then (bif (decide (x1.2.1 < x.2)) then (bif (decide (x1.2.2.1≥(1:Int))) then (bif (decide (x1.2.2.1≤(16:Int))) then (some ((List.length x1.2.2.2.1:Int)==(0:Int))) else (some false)) else (some false)) else (some false)) else (some false)) else (bif (x1.1==(5:Int)) then (loop0 (x.2,(0:Int),x1)) else (some false)))) else (bif (x1.1==(7:Int)) then (bif (decide (x1.2.1≥(0:Int))) then (bif (decide (x1.2.1 < (List.length x.1:Int))) then (bif (x1.2.2.1==(0:Int)) then (some ((List.length x1.2.2.2.1:Int)==(0:Int))) else (some false)) else (some false)) else (some false)) else (bif (x1.1==(6:Int)) then (bif (decide (x1.2.1≥(0:Int))) then (bif (decide (x1.2.1 < x.2)) then (bif (decide (x1.2.2.1≥(1:Int))) then (bif (decide (x1.2.2.1≤(16:Int))) then (some ((List.length x1.2.2.2.1:Int)==(0:Int))) else (some false)) else (some false)) else (some false)) else (some false)) else (bif (x1.1==(5:Int)) then (loop0 (x.2,(0:Int),x1)) else (some false)))))) else (bif (x1.1==(2:Int)) then (bif (x1.1==(2:Int)) then (bif (x1.2.1==(0:Int)) then (bif (x1.2.2.1==(0:Int)) then (some ((List.length x1.2.2.2.1:Int)==(0:Int))) else (some false)) else (some false)) else (bif (x1.1==(4:Int)) then (bif (x1.1==(4:Int)) then (bif (decide (x1.2.1≥(0:Int))) then (bif (decide (x1.2.1 < (List.length x.1:Int))) then (bif (x1.2.2.1==(0:Int)) then (some ((List.length x1.2.2.2.1:Int)==(0:Int))) else (some false)) else (some false)) else (some false)) else (bif (x1.1==(6:Int)) then (bif (decide (x1.2.1≥(0:Int))) then (bif (decide (x1.2.1 < x.2)) then (bif (decide (x1.2.2.1≥(1:Int))) then (bif (decide (x1.2.2.1≤(16:Int))) then (some ((List.length x1.2.2.2.1:Int)==(0:Int))) else (some false)) else (some false)) else (some false)) else (some false)) else (bif (x1.1==(5:Int)) then (loop0 (x.2,(0:Int),x1)) else (some false)))) else (bif (x1.1==(7:Int)) then (bif (decide (x1.2.1≥(0:Int))) then (bif (decide (x1.2.1 < (List.length x.1:Int))) then (bif (x1.2.2.1==(0:Int)) then (some ((List.length x1.2.2.2.1:Int)==(0:Int))) else (some false)) else (some false)) else (some false)) else (bif (x1.1==(6:Int)) then (bif (decide (x1.2.1≥(0:Int))) then (bif (decide (x1.2.1 < x.2)) then (bif (decide (x1.2.2.1≥(1:Int))) then (bif (decide (x1.2.2.1≤(16:Int))) then (some ((List.length x1.2.2.2.1:Int)==(0:Int))) else (some false)) else (some false)) else (some false)) else (some false)) else (bif (x1.1==(5:Int)) then (loop0 (x.2,(0:Int),x1)) else (some false)))))) else (bif (x1.1==(3:Int)) then (bif (x1.2.1==(0:Int)) then (bif (x1.2.2.1==(0:Int)) then (some ((List.length x1.2.2.2.1:Int)==(0:Int))) else (some false)) else (some false)) else (bif (x1.1==(4:Int)) then (bif (x1.1==(4:Int)) then (bif (decide (x1.2.1≥(0:Int))) then (bif (decide (x1.2.1 < (List.length x.1:Int))) then (bif (x1.2.2.1==(0:Int)) then (some ((List.length x1.2.2.2.1:Int)==(0:Int))) else (some false)) else (some false)) else (some false)) else (bif (x1.1==(6:Int)) then (bif (decide (x1.2.1≥(0:Int))) then (bif (decide (x1.2.1 < x.2)) then (bif (decide (x1.2.2.1≥(1:Int))) then (bif (decide (x1.2.2.1≤(16:Int))) then (some ((List.length x1.2.2.2.1:Int)==(0:Int))) else (some false)) else (some false)) else (some false)) else (some false)) else (bif (x1.1==(5:Int)) then (loop0 (x.2,(0:Int),x1)) else (some false)))) else (bif (x1.1==(7:Int)) then (bif (decide (x1.2.1≥(0:Int))) then (bif (decide (x1.2.1 < (List.length x.1:Int))) then (bif (x1.2.2.1==(0:Int)) then (some ((List.length x1.2.2.2.1:Int)==(0:Int))) else (some false)) else (some false)) else (some false)) else (bif (x1.1==(6:Int)) then (bif (decide (x1.2.1≥(0:Int))) then (bif (decide (x1.2.1 < x.2)) then (bif (decide (x1.2.2.1≥(1:Int))) then (bif (decide (x1.2.2.1≤(16:Int))) then (some ((List.length x1.2.2.2.1:Int)==(0:Int))) else (some false)) else (some false)) else (some false)) else (some false)) else (bif (x1.1==(5:Int)) then (loop0 (x.2,(0:Int),x1)) else (some false)))))))))
def mref04_fine (N:Nat) (x:Y6×Int):Option (Bool):=nref04_fine (iterV (gref04_fine_0 N) N) x
theorem jz68 (N:Nat) (x:Y6×Int):rise (Ez68) Tz68 6 N Tryz.f103 [Z11,Z2] [.bool] [false] x=nref04_fine (fun v=>iterR (floc (Ez68) Tz68 6 N Tryz.f103 [.bool] [false] [] 0 nowhereR) N (ez68_0 v)) x:=by kernel_rfl
theorem lz68 (N:Nat) (x:Y6×Int):rise (Ez68) Tz68 6 N Tryz.f103 [Z11,Z2] [.bool] [false] x=mref04_fine N x:=(jz68 N x).trans (by rw [funext (iterR_eq ez68_0 (bz68_0 N) N)];rfl)
def cref04_fine (x:Y6×Int):Option (Bool):=mref04_fine big x
def Gz68:Fn2:=⟨[Z11,Z2],[.bool],[false],fun x=>cref04_fine x⟩
theorem Lz68:Rises Tryz.prog 103 Gz68:=rises_of (E:=Ez68) ⟨tabOk,(fsCons2 Lz67 fsNil2),fun _ _ _=>rfl,mixed,inlNil,rcsNil,owsNil⟩ Tryz.func103 rfl (by decide) (by kernel_rfl) (by kernel_rfl) (by kernel_rfl) (by kernel_rfl) (fun x r _ h=>⟨Tz68,6,big,(lz68 big x).trans h⟩)
def Tz69:LT:={ live:=[(5,[1,3,4])],keep:=[] }
noncomputable def Ez69:Env2:={ tab:=tab,fs:=[],inl:=[] }
noncomputable def ez69_0 (v:Int×Y2×Y3):St:={ s:=[(1,(.loc 0 [])),(3,(.row 1)),(4,(.val ⟨Z2,v.1⟩))],l:=[(0,.var Z1 (.val ⟨Z1,v.2.1⟩)),(1,.row Z2 v.2.2)],k:=[],b:=4096 }
def href04_Parts_0 (self0:Int×Y2×Y3→Option (Y3)) (v:Int×Y2×Y3):Option (Y3):=
 (bif (decide (v.1 < (List.length v.2.1.2.2.2.1:Int))) then ((getI v.2.1.2.2.2.1 v.1).bind fun x2=>(bif (Nat.ble 1 1&&Nat.ble (List.length v.2.2+List.length ([x2.2.1]:Y3)) lim) then (let x3:Y3:=(List.append v.2.2 ([x2.2.1]:Y3));(let x4:Int:=(IntKind.i64.wrap (v.1+(1:Int)));(self0 (x4,v.2.1,x3)))) else none)) else (some v.2.2))
def gref04_Parts_0 (N:Nat) (self0:Int×Y2×Y3→Option (Y3)) (v:Int×Y2×Y3):Option (Y3):=href04_Parts_0 self0 v
theorem kz69_0 (N:Nat) (s0:St→Option (Y3)) (v):(floc (Ez69) Tz69 6 N Tryz.f132 [Z10] [true] [] 0 nowhereR) s0 (ez69_0 v)=href04_Parts_0 (fun v=>s0 (ez69_0 v)) v:=by kernel_rfl
theorem bz69_0 (N:Nat) (s0:St→Option (Y3)) (v):(floc (Ez69) Tz69 6 N Tryz.f132 [Z10] [true] [] 0 nowhereR) s0 (ez69_0 v)=gref04_Parts_0 N (fun v=>s0 (ez69_0 v)) v:=kz69_0 N s0 v
def nref04_Parts (loop0:Int×Y2×Y3→Option (Y3)) (x:Y2):Option (Y3):=
 (bif (x.1==(6:Int)) then (bif (Nat.ble 1 1&&Nat.ble (List.length ([]:List Int)+List.length ([x.2.1]:Y3)) lim) then (let x1:Y3:=(List.append ([]:List Int) ([x.2.1]:Y3));(loop0 ((0:Int),x,x1))) else none) else (loop0 ((0:Int),x,([]:List Int))))
def mref04_Parts (N:Nat) (x:Y2):Option (Y3):=nref04_Parts (iterV (gref04_Parts_0 N) N) x
theorem jz69 (N:Nat) (x:Y2):rise (Ez69) Tz69 6 N Tryz.f132 [Z1] [Z10] [true] x=nref04_Parts (fun v=>iterR (floc (Ez69) Tz69 6 N Tryz.f132 [Z10] [true] [] 0 nowhereR) N (ez69_0 v)) x:=by kernel_rfl
theorem lz69 (N:Nat) (x:Y2):rise (Ez69) Tz69 6 N Tryz.f132 [Z1] [Z10] [true] x=mref04_Parts N x:=(jz69 N x).trans (by rw [funext (iterR_eq ez69_0 (bz69_0 N) N)];rfl)
def cref04_Parts (x:Y2):Option (Y3):=mref04_Parts big x
def Gz69:Fn2:=⟨[Z1],[Z10],[true],fun x=>cref04_Parts x⟩
theorem Lz69:Rises Tryz.prog 132 Gz69:=rises_of (E:=Ez69) ⟨tabOk,fsNil2,fun _ _ _=>rfl,mixed,inlNil,rcsNil,owsNil⟩ Tryz.func132 rfl (by decide) (by kernel_rfl) (by kernel_rfl) (by kernel_rfl) (by kernel_rfl) (fun x r _ h=>⟨Tz69,6,big,(lz69 big x).trans h⟩)
def Tz70:LT:={ live:=[(6,[0,1,5,6,7]),(10,[0,1,5,6,7,8,9,10])],keep:=[] }
noncomputable def Ez70 (me:Y6×Int→Option (Y3)):Env2:={ tab:=tab,fs:=[(132,Gz69),(104,⟨[Z11,Z2],[Z10],[true],fun x=>me x⟩)],inl:=[] }
noncomputable def ez70_1 (v:Y6×Int×Int×Int×Int×Y3×Y3×Y3):St:={ s:=[(0,(.val ⟨Z11,v.1⟩)),(1,(.val ⟨Z2,v.2.1⟩)),(5,(.row 0)),(6,(.row 1)),(7,(.val ⟨Z2,v.2.2.1⟩)),(8,(.val ⟨Z2,v.2.2.2.1⟩)),(9,(.row 2)),(10,(.val ⟨Z2,v.2.2.2.2.1⟩))],l:=[(0,.row Z2 v.2.2.2.2.2.1),(1,.row Z2 v.2.2.2.2.2.2.1),(2,.row Z2 v.2.2.2.2.2.2.2)],k:=[],b:=4096 }
noncomputable def ez70_0 (v:Y6×Int×Int×Y3×Y3):St:={ s:=[(0,(.val ⟨Z11,v.1⟩)),(1,(.val ⟨Z2,v.2.1⟩)),(5,(.row 0)),(6,(.row 1)),(7,(.val ⟨Z2,v.2.2.1⟩))],l:=[(0,.row Z2 v.2.2.2.1),(1,.row Z2 v.2.2.2.2)],k:=[],b:=4096 }
def href04_Widths_1 (me:Y6×Int→Option (Y3)) (self0:Y6×Int×Int×Y3×Y3→Option (Y3)) (self1:Y6×Int×Int×Int×Int×Y3×Y3×Y3→Option (Y3)) (v:Y6×Int×Int×Int×Int×Y3×Y3×Y3):Option (Y3):=
 (bif (decide (v.2.2.2.2.1 < (List.length v.2.2.2.2.2.2.2:Int))) then ((getI v.1 v.2.2.1).bind fun x5=>(bif (x5.1==(6:Int)) then ((getI v.1 v.2.2.1).bind fun x6=>(bif (decide (0≤v.2.2.2.2.1)&&decide (v.2.2.2.2.1 < (List.length v.2.2.2.2.2.2.2:Int))) then ((nth v.2.2.2.2.2.2.2 (Int.toNat v.2.2.2.2.1)).bind fun x7=>(bif (decide (0≤x7)&&decide (x7 < (List.length v.2.2.2.2.2.2.1:Int))) then ((nth v.2.2.2.2.2.2.1 (Int.toNat x7)).bind fun x8=>(let x9:Int:=(IntKind.i64.wrap (x6.2.2.1 * x8));(let x10:Int:=(IntKind.i64.wrap (v.2.2.2.1+x9));(let x11:Int:=(if (5001:Int) < x10 then (5001:Int) else x10);(let x12:Int:=(IntKind.i64.wrap (v.2.2.2.2.1+(1:Int)));(self1 (v.1,v.2.1,v.2.2.1,x11,x12,v.2.2.2.2.2.1,v.2.2.2.2.2.2.1,v.2.2.2.2.2.2.2))))))) else none)) else none)) else (bif (decide (0≤v.2.2.2.2.1)&&decide (v.2.2.2.2.1 < (List.length v.2.2.2.2.2.2.2:Int))) then ((nth v.2.2.2.2.2.2.2 (Int.toNat v.2.2.2.2.1)).bind fun x13=>(bif (decide (0≤x13)&&decide (x13 < (List.length v.2.2.2.2.2.2.1:Int))) then ((nth v.2.2.2.2.2.2.1 (Int.toNat x13)).bind fun x14=>(let x15:Int:=(IntKind.i64.wrap ((1:Int) * x14));(let x16:Int:=(IntKind.i64.wrap (v.2.2.2.1+x15));(let x17:Int:=(if (5001:Int) < x16 then (5001:Int) else x16);(let x18:Int:=(IntKind.i64.wrap (v.2.2.2.2.1+(1:Int)));(self1 (v.1,v.2.1,v.2.2.1,x17,x18,v.2.2.2.2.2.1,v.2.2.2.2.2.2.1,v.2.2.2.2.2.2.2))))))) else none)) else none))) else (bif (decide (v.2.1 > (0:Int))) then ((getI v.1 v.2.2.1).bind fun x19=>(bif (x19.1==(4:Int)) then ((getI v.1 v.2.2.1).bind fun x20=>(bif (decide (0≤x20.2.1)&&decide (x20.2.1 < (List.length v.2.2.2.2.2.1:Int))) then ((nth v.2.2.2.2.2.1 (Int.toNat x20.2.1)).bind fun x21=>(let x22:Int:=(IntKind.i64.wrap (v.2.2.2.1+x21));(let x23:Int:=(if (5001:Int) < x22 then (5001:Int) else x22);(bif (decide (v.2.1 > (0:Int))) then ((getI v.1 v.2.2.1).bind fun x24=>(bif (x24.1==(7:Int)) then ((getI v.1 v.2.2.1).bind fun x25=>(bif (decide (0≤x25.2.1)&&decide (x25.2.1 < (List.length v.2.2.2.2.2.1:Int))) then ((nth v.2.2.2.2.2.1 (Int.toNat x25.2.1)).bind fun x26=>(let x27:Int:=(IntKind.i64.wrap ((16:Int) * x26));(let x28:Int:=(IntKind.i64.wrap (x23+x27));(let x29:Int:=(if (5001:Int) < x28 then (5001:Int) else x28);(bif (Nat.ble 1 1&&Nat.ble (List.length v.2.2.2.2.2.2.1+List.length ([x29]:Y3)) lim) then (let x30:Y3:=(List.append v.2.2.2.2.2.2.1 ([x29]:Y3));(let x31:Int:=(IntKind.i64.wrap (v.2.2.1+(1:Int)));(self0 (v.1,v.2.1,x31,v.2.2.2.2.2.1,x30)))) else none))))) else none)) else (bif (Nat.ble 1 1&&Nat.ble (List.length v.2.2.2.2.2.2.1+List.length ([x23]:Y3)) lim) then (let x32:Y3:=(List.append v.2.2.2.2.2.2.1 ([x23]:Y3));(let x33:Int:=(IntKind.i64.wrap (v.2.2.1+(1:Int)));(self0 (v.1,v.2.1,x33,v.2.2.2.2.2.1,x32)))) else none))) else (bif (Nat.ble 1 1&&Nat.ble (List.length v.2.2.2.2.2.2.1+List.length ([x23]:Y3)) lim) then (let x34:Y3:=(List.append v.2.2.2.2.2.2.1 ([x23]:Y3));(let x35:Int:=(IntKind.i64.wrap (v.2.2.1+(1:Int)));(self0 (v.1,v.2.1,x35,v.2.2.2.2.2.1,x34)))) else none))))) else none)) else (bif (decide (v.2.1 > (0:Int))) then ((getI v.1 v.2.2.1).bind fun x36=>(bif (x36.1==(7:Int)) then ((getI v.1 v.2.2.1).bind fun x37=>(bif (decide (0≤x37.2.1)&&decide (x37.2.1 < (List.length v.2.2.2.2.2.1:Int))) then ((nth v.2.2.2.2.2.1 (Int.toNat x37.2.1)).bind fun x38=>(let x39:Int:=(IntKind.i64.wrap ((16:Int) * x38));(let x40:Int:=(IntKind.i64.wrap (v.2.2.2.1+x39));(let x41:Int:=(if (5001:Int) < x40 then (5001:Int) else x40);(bif (Nat.ble 1 1&&Nat.ble (List.length v.2.2.2.2.2.2.1+List.length ([x41]:Y3)) lim) then (let x42:Y3:=(List.append v.2.2.2.2.2.2.1 ([x41]:Y3));(let x43:Int:=(IntKind.i64.wrap (v.2.2.1+(1:Int)));(self0 (v.1,v.2.1,x43,v.2.2.2.2.2.1,x42)))) else none))))) else none)) else (let x44:Y3:=([v.2.2.2.1]:Y3);(bif (Nat.ble 1 1&&Nat.ble (List.length v.2.2.2.2.2.2.1+List.length x44) lim) then (let x45:Y3:=(List.append v.2.2.2.2.2.2.1 x44);(let x46:Int:=(IntKind.i64.wrap (v.2.2.1+(1:Int)));(self0 (v.1,v.2.1,x46,v.2.2.2.2.2.1,x45)))) else none)))) else (let x47:Y3:=([v.2.2.2.1]:Y3);(bif (Nat.ble 1 1&&Nat.ble (List.length v.2.2.2.2.2.2.1+List.length x47) lim) then (let x48:Y3:=(List.append v.2.2.2.2.2.2.1 x47);(let x49:Int:=(IntKind.i64.wrap (v.2.2.1+(1:Int)));(self0 (v.1,v.2.1,x49,v.2.2.2.2.2.1,x48)))) else none))))) else (bif (decide (v.2.1 > (0:Int))) then ((getI v.1 v.2.2.1).bind fun x50=>(bif (x50.1==(7:Int)) then ((getI v.1 v.2.2.1).bind fun x51=>(bif (decide (0≤x51.2.1)&&decide (x51.2.1 < (List.length v.2.2.2.2.2.1:Int))) then ((nth v.2.2.2.2.2.1 (Int.toNat x51.2.1)).bind fun x52=>(let x53:Int:=(IntKind.i64.wrap ((16:Int) * x52));(let x54:Int:=(IntKind.i64.wrap (v.2.2.2.1+x53));(let x55:Int:=(if (5001:Int) < x54 then (5001:Int) else x54);(bif (Nat.ble 1 1&&Nat.ble (List.length v.2.2.2.2.2.2.1+List.length ([x55]:Y3)) lim) then (let x56:Y3:=(List.append v.2.2.2.2.2.2.1 ([x55]:Y3));(let x57:Int:=(IntKind.i64.wrap (v.2.2.1+(1:Int)));(self0 (v.1,v.2.1,x57,v.2.2.2.2.2.1,x56)))) else none))))) else none)) else (let x58:Y3:=([v.2.2.2.1]:Y3);(bif (Nat.ble 1 1&&Nat.ble (List.length v.2.2.2.2.2.2.1+List.length x58) lim) then (let x59:Y3:=(List.append v.2.2.2.2.2.2.1 x58);(let x60:Int:=(IntKind.i64.wrap (v.2.2.1+(1:Int)));(self0 (v.1,v.2.1,x60,v.2.2.2.2.2.1,x59)))) else none)))) else (let x61:Y3:=([v.2.2.2.1]:Y3);(bif (Nat.ble 1 1&&Nat.ble (List.length v.2.2.2.2.2.2.1+List.length x61) lim) then (let x62:Y3:=(List.append v.2.2.2.2.2.2.1 x61);(let x63:Int:=(IntKind.i64.wrap (v.2.2.1+(1:Int)));(self0 (v.1,v.2.1,x63,v.2.2.2.2.2.1,x62)))) else none)))))
def gref04_Widths_1 (me:Y6×Int→Option (Y3)) (N:Nat) (self0:Y6×Int×Int×Y3×Y3→Option (Y3)) (self1:Y6×Int×Int×Int×Int×Y3×Y3×Y3→Option (Y3)) (v:Y6×Int×Int×Int×Int×Y3×Y3×Y3):Option (Y3):=href04_Widths_1 me self0 self1 v
theorem kz70_1 (me:Y6×Int→Option (Y3)) (N:Nat) (s0:St→Option (Y3)) (s1:St→Option (Y3)) (v):(floc (Ez70 me) Tz70 6 N Tryz.f104 [Z10] [true] [] 1 (outerR s0 nowhereR)) s1 (ez70_1 v)=href04_Widths_1 me (fun v=>s0 (ez70_0 v)) (fun v=>s1 (ez70_1 v)) v:=by kernel_rfl
theorem bz70_1 (me:Y6×Int→Option (Y3)) (N:Nat) (s0:St→Option (Y3)) (s1:St→Option (Y3)) (v):(floc (Ez70 me) Tz70 6 N Tryz.f104 [Z10] [true] [] 1 (outerR s0 nowhereR)) s1 (ez70_1 v)=gref04_Widths_1 me N (fun v=>s0 (ez70_0 v)) (fun v=>s1 (ez70_1 v)) v:=kz70_1 me N s0 s1 v
def href04_Widths_0 (me:Y6×Int→Option (Y3)) (loop1:Y6×Int×Int×Int×Int×Y3×Y3×Y3→Option (Y3)) (self0:Y6×Int×Int×Y3×Y3→Option (Y3)) (v:Y6×Int×Int×Y3×Y3):Option (Y3):=
 (bif (decide (v.2.2.1 < (List.length v.1:Int))) then ((getI v.1 v.2.2.1).bind fun x3=>((cref04_Parts x3).bind fun x4=>(loop1 (v.1,v.2.1,v.2.2.1,(1:Int),(0:Int),v.2.2.2.1,v.2.2.2.2,x4)))) else (some v.2.2.2.2))
def gref04_Widths_0 (me:Y6×Int→Option (Y3)) (N:Nat) (self0:Y6×Int×Int×Y3×Y3→Option (Y3)) (v:Y6×Int×Int×Y3×Y3):Option (Y3):=href04_Widths_0 me (iterV (gref04_Widths_1 me N self0) N) self0 v
theorem kz70_0 (me:Y6×Int→Option (Y3)) (N:Nat) (s0:St→Option (Y3)) (v):(floc (Ez70 me) Tz70 6 N Tryz.f104 [Z10] [true] [] 0 nowhereR) s0 (ez70_0 v)=href04_Widths_0 me (fun v=>iterR (floc (Ez70 me) Tz70 6 N Tryz.f104 [Z10] [true] [] 1 (outerR s0 nowhereR)) N (ez70_1 v)) (fun v=>s0 (ez70_0 v)) v:=by kernel_rfl
theorem bz70_0 (me:Y6×Int→Option (Y3)) (N:Nat) (s0:St→Option (Y3)) (v):(floc (Ez70 me) Tz70 6 N Tryz.f104 [Z10] [true] [] 0 nowhereR) s0 (ez70_0 v)=gref04_Widths_0 me N (fun v=>s0 (ez70_0 v)) v:=(kz70_0 me N s0 v).trans (by rw [funext (iterR_eq ez70_1 (bz70_1 me N s0) N)];rfl)
def nref04_Widths (me:Y6×Int→Option (Y3)) (loop0:Y6×Int×Int×Y3×Y3→Option (Y3)) (x:Y6×Int):Option (Y3):=
 (bif (decide (x.2 > (0:Int))) then (let x1:Int:=(IntKind.i64.wrap (x.2 - (1:Int)));((me (x.1,x1)).bind fun x2=>(loop0 (x.1,x.2,(0:Int),x2,([]:List Int))))) else (loop0 (x.1,x.2,(0:Int),([]:List Int),([]:List Int))))
def mref04_Widths (me:Y6×Int→Option (Y3)) (N:Nat) (x:Y6×Int):Option (Y3):=nref04_Widths me (iterV (gref04_Widths_0 me N) N) x
theorem jz70 (me:Y6×Int→Option (Y3)) (N:Nat) (x:Y6×Int):rise (Ez70 me) Tz70 6 N Tryz.f104 [Z11,Z2] [Z10] [true] x=nref04_Widths me (fun v=>iterR (floc (Ez70 me) Tz70 6 N Tryz.f104 [Z10] [true] [] 0 nowhereR) N (ez70_0 v)) x:=by kernel_rfl
theorem lz70 (me:Y6×Int→Option (Y3)) (N:Nat) (x:Y6×Int):rise (Ez70 me) Tz70 6 N Tryz.f104 [Z11,Z2] [Z10] [true] x=mref04_Widths me N x:=(jz70 me N x).trans (by rw [funext (iterR_eq ez70_0 (bz70_0 me N) N)];rfl)
def rref04_Widths:Nat→Y6×Int→Option (Y3)
 | 0,_=>none
 | k+1,x=>mref04_Widths (rref04_Widths k) big x
def cref04_Widths (x:Y6×Int):Option (Y3):=rref04_Widths big x
def Gz70:Fn2:=⟨[Z11,Z2],[Z10],[true],fun x=>cref04_Widths x⟩
theorem Rz70:∀ k,Rises Tryz.prog 104 ⟨[Z11,Z2],[Z10],[true],fun x=>rref04_Widths k x⟩
 | 0=>rises_none Tryz.func104 rfl (by decide) (by kernel_rfl) (by kernel_rfl)
 | k+1=>by
  have ih:=Rz70 k
  exact rises_of (E:=Ez70 (rref04_Widths k)) ⟨tabOk,(fsCons2 Lz69 (fsCons2 ih fsNil2)),fun _ _ _=>rfl,mixed,inlNil,rcsNil,owsNil⟩ Tryz.func104 rfl (by decide) (by kernel_rfl) (by kernel_rfl) (by kernel_rfl) (by kernel_rfl) (fun x r _ h=>⟨Tz70,6,big,(lz70 (rref04_Widths k) big x).trans h⟩)
theorem Lz70:Rises Tryz.prog 104 Gz70:=Rz70 big
def Tz71:LT:={ live:=[(4,[0,3]),(10,[0,4,5])],keep:=[] }
noncomputable def Ez71:Env2:={ tab:=tab,fs:=[(103,Gz68),(104,Gz70)],inl:=[] }
noncomputable def ez71_1 (v:Y6×Int×Y3):St:={ s:=[(0,(.val ⟨Z11,v.1⟩)),(4,(.row 0)),(5,(.val ⟨Z2,v.2.1⟩))],l:=[(0,.row Z2 v.2.2)],k:=[],b:=4096 }
noncomputable def ez71_0 (v:Y6×Int):St:={ s:=[(0,(.val ⟨Z11,v.1⟩)),(3,(.val ⟨Z2,v.2⟩))],l:=[],k:=[],b:=4096 }
def href04_Check_1 (self0:Y6×Int→Option (Int)) (self1:Y6×Int×Y3→Option (Int)) (v:Y6×Int×Y3):Option (Int):=
 (bif (decide (v.2.1 < (List.length v.1:Int))) then (bif (decide (0≤v.2.1)&&decide (v.2.1 < (List.length v.2.2:Int))) then ((nth v.2.2 (Int.toNat v.2.1)).bind fun x4=>(bif (decide (x4 > (5000:Int))) then (some (8:Int)) else (let x5:Int:=(IntKind.i64.wrap (v.2.1+(1:Int)));(self1 (v.1,x5,v.2.2))))) else none) else (some (0:Int)))
def gref04_Check_1 (N:Nat) (self0:Y6×Int→Option (Int)) (self1:Y6×Int×Y3→Option (Int)) (v:Y6×Int×Y3):Option (Int):=href04_Check_1 self0 self1 v
theorem kz71_1 (N:Nat) (s0:St→Option (Int)) (s1:St→Option (Int)) (v):(floc (Ez71) Tz71 6 N Tryz.f68 [Z2] [false] [] 1 nowhereR) s1 (ez71_1 v)=href04_Check_1 (fun v=>s0 (ez71_0 v)) (fun v=>s1 (ez71_1 v)) v:=by kernel_rfl
theorem bz71_1 (N:Nat) (s0:St→Option (Int)) (s1:St→Option (Int)) (v):(floc (Ez71) Tz71 6 N Tryz.f68 [Z2] [false] [] 1 nowhereR) s1 (ez71_1 v)=gref04_Check_1 N (fun v=>s0 (ez71_0 v)) (fun v=>s1 (ez71_1 v)) v:=kz71_1 N s0 s1 v
def href04_Check_0 (loop1:Y6×Int×Y3→Option (Int)) (self0:Y6×Int→Option (Int)) (v:Y6×Int):Option (Int):=
 (bif (decide (v.2 < (List.length v.1:Int))) then ((cref04_fine (v.1,v.2)).bind fun x1=>(bif (!x1) then (some (8:Int)) else (let x2:Int:=(IntKind.i64.wrap (v.2+(1:Int)));(self0 (v.1,x2))))) else ((cref04_Widths (v.1,(3:Int))).bind fun x3=>(loop1 (v.1,(0:Int),x3))))
def gref04_Check_0 (N:Nat) (self0:Y6×Int→Option (Int)) (v:Y6×Int):Option (Int):=href04_Check_0 (iterV (gref04_Check_1 N self0) N) self0 v
theorem kz71_0 (N:Nat) (s0:St→Option (Int)) (v):(floc (Ez71) Tz71 6 N Tryz.f68 [Z2] [false] [] 0 nowhereR) s0 (ez71_0 v)=href04_Check_0 (fun v=>iterR (floc (Ez71) Tz71 6 N Tryz.f68 [Z2] [false] [] 1 nowhereR) N (ez71_1 v)) (fun v=>s0 (ez71_0 v)) v:=by kernel_rfl
theorem bz71_0 (N:Nat) (s0:St→Option (Int)) (v):(floc (Ez71) Tz71 6 N Tryz.f68 [Z2] [false] [] 0 nowhereR) s0 (ez71_0 v)=gref04_Check_0 N (fun v=>s0 (ez71_0 v)) v:=(kz71_0 N s0 v).trans (by rw [funext (iterR_eq ez71_1 (bz71_1 N s0) N)];rfl)
def nref04_Check (loop0:Y6×Int→Option (Int)) (x:Y6):Option (Int):=
 (bif (decide ((List.length x:Int) > (32:Int))) then (some (8:Int)) else (loop0 (x,(0:Int))))
def mref04_Check (N:Nat) (x:Y6):Option (Int):=nref04_Check (iterV (gref04_Check_0 N) N) x
theorem jz71 (N:Nat) (x:Y6):rise (Ez71) Tz71 6 N Tryz.f68 [Z11] [Z2] [false] x=nref04_Check (fun v=>iterR (floc (Ez71) Tz71 6 N Tryz.f68 [Z2] [false] [] 0 nowhereR) N (ez71_0 v)) x:=by kernel_rfl
theorem lz71 (N:Nat) (x:Y6):rise (Ez71) Tz71 6 N Tryz.f68 [Z11] [Z2] [false] x=mref04_Check N x:=(jz71 N x).trans (by rw [funext (iterR_eq ez71_0 (bz71_0 N) N)];rfl)
def cref04_Check (x:Y6):Option (Int):=mref04_Check big x
def Gz71:Fn2:=⟨[Z11],[Z2],[false],fun x=>cref04_Check x⟩
theorem Lz71:Rises Tryz.prog 68 Gz71:=rises_of (E:=Ez71) ⟨tabOk,(fsCons2 Lz68 (fsCons2 Lz70 fsNil2)),fun _ _ _=>rfl,mixed,inlNil,rcsNil,owsNil⟩ Tryz.func68 rfl (by decide) (by kernel_rfl) (by kernel_rfl) (by kernel_rfl) (by kernel_rfl) (fun x r _ h=>⟨Tz71,6,big,(lz71 big x).trans h⟩)
def Tz72:LT:={ live:=[],keep:=[] }
noncomputable def Ez72:Env2:={ tab:=tab,fs:=[],inl:=[] }
def nref05_up (x:Int×Int):Option (Int):=
 (let x1:Int:=(IntKind.i64.wrap (x.1+x.2));(let x2:Int:=(IntKind.i64.wrap (x1 - (1:Int)));(bif (x.2==0) then none else (let x3:Int:=(IntKind.i64.wrap (x2.tdiv x.2));(let x4:Int:=(IntKind.i64.wrap (x3 * x.2));(some x4))))))
def mref05_up (N:Nat) (x:Int×Int):Option (Int):=nref05_up x
theorem jz72 (N:Nat) (x:Int×Int):rise (Ez72) Tz72 6 N Tryz.f133 [Z2,Z2] [Z2] [false] x=nref05_up x:=by kernel_rfl
theorem lz72 (N:Nat) (x:Int×Int):rise (Ez72) Tz72 6 N Tryz.f133 [Z2,Z2] [Z2] [false] x=mref05_up N x:=(jz72 N x).trans rfl
def cref05_up (x:Int×Int):Option (Int):=mref05_up big x
def Gz72:Fn2:=⟨[Z2,Z2],[Z2],[false],fun x=>cref05_up x⟩
theorem Lz72:Rises Tryz.prog 133 Gz72:=rises_of (E:=Ez72) ⟨tabOk,fsNil2,fun _ _ _=>rfl,mixed,inlNil,rcsNil,owsNil⟩ Tryz.func133 rfl (by decide) (by kernel_rfl) (by kernel_rfl) (by kernel_rfl) (by kernel_rfl) (fun x r _ h=>⟨Tz72,6,big,(lz72 big x).trans h⟩)
def Tz73:LT:={ live:=[(4,[0,1,2,9,10,11,12])],keep:=[] }
noncomputable def Ez73:Env2:={ tab:=tab,fs:=[(133,Gz72)],inl:=[] }
noncomputable def ez73_0 (v:Y3×Y3×Y5×Int×Int×Int×Y3):St:={ s:=[(0,(.val ⟨Z10,v.1⟩)),(1,(.val ⟨Z10,v.2.1⟩)),(2,(.val ⟨Z6,v.2.2.1⟩)),(9,(.row 0)),(10,(.val ⟨Z2,v.2.2.2.1⟩)),(11,(.val ⟨Z2,v.2.2.2.2.1⟩)),(12,(.val ⟨Z2,v.2.2.2.2.2.1⟩))],l:=[(0,.row Z2 v.2.2.2.2.2.2)],k:=[],b:=4096 }
def href05_together_0 (self0:Y3×Y3×Y5×Int×Int×Int×Y3→Option (Y3×Int×Int)) (v:Y3×Y3×Y5×Int×Int×Int×Y3):Option (Y3×Int×Int):=
 (bif (decide (v.2.2.2.2.2.1 < (List.length v.2.2.1:Int))) then ((getI v.2.2.1 v.2.2.2.2.2.1).bind fun x1=>((getI v.2.1 x1.2.1).bind fun x2=>((cref05_up (v.2.2.2.1,x2)).bind fun x3=>(bif (Nat.ble 1 1&&Nat.ble (List.length v.2.2.2.2.2.2+List.length ([x3]:Y3)) lim) then (let x4:Y3:=(List.append v.2.2.2.2.2.2 ([x3]:Y3));((getI v.1 x1.2.1).bind fun x5=>(let x6:Int:=(IntKind.i64.wrap (x3+x5));(let x7:Int:=(if x6 < (1000000:Int) then x6 else (1000000:Int));((getI v.2.1 x1.2.1).bind fun x8=>(let x9:Int:=(if x8 > v.2.2.2.2.1 then x8 else v.2.2.2.2.1);(let x10:Int:=(IntKind.i64.wrap (v.2.2.2.2.2.1+(1:Int)));(self0 (v.1,v.2.1,v.2.2.1,x7,x9,x10,x4))))))))) else none)))) else ((cref05_up (v.2.2.2.1,v.2.2.2.2.1)).bind fun x11=>(let x12:Int:=(if x11 < (1000000:Int) then x11 else (1000000:Int));(some (v.2.2.2.2.2.2,x12,v.2.2.2.2.1)))))
def gref05_together_0 (N:Nat) (self0:Y3×Y3×Y5×Int×Int×Int×Y3→Option (Y3×Int×Int)) (v:Y3×Y3×Y5×Int×Int×Int×Y3):Option (Y3×Int×Int):=href05_together_0 self0 v
theorem kz73_0 (N:Nat) (s0:St→Option (Y3×Int×Int)) (v):(floc (Ez73) Tz73 6 N Tryz.f105 [Z10,Z2,Z2] [true,false,false] [] 0 nowhereR) s0 (ez73_0 v)=href05_together_0 (fun v=>s0 (ez73_0 v)) v:=by kernel_rfl
theorem bz73_0 (N:Nat) (s0:St→Option (Y3×Int×Int)) (v):(floc (Ez73) Tz73 6 N Tryz.f105 [Z10,Z2,Z2] [true,false,false] [] 0 nowhereR) s0 (ez73_0 v)=gref05_together_0 N (fun v=>s0 (ez73_0 v)) v:=kz73_0 N s0 v
def nref05_together (loop0:Y3×Y3×Y5×Int×Int×Int×Y3→Option (Y3×Int×Int)) (x:Y3×Y3×Y5):Option (Y3×Int×Int):=
 (loop0 (x.1,x.2.1,x.2.2,(0:Int),(1:Int),(0:Int),([]:List Int)))
def mref05_together (N:Nat) (x:Y3×Y3×Y5):Option (Y3×Int×Int):=nref05_together (iterV (gref05_together_0 N) N) x
theorem jz73 (N:Nat) (x:Y3×Y3×Y5):rise (Ez73) Tz73 6 N Tryz.f105 [Z10,Z10,Z6] [Z10,Z2,Z2] [true,false,false] x=nref05_together (fun v=>iterR (floc (Ez73) Tz73 6 N Tryz.f105 [Z10,Z2,Z2] [true,false,false] [] 0 nowhereR) N (ez73_0 v)) x:=by kernel_rfl
theorem lz73 (N:Nat) (x:Y3×Y3×Y5):rise (Ez73) Tz73 6 N Tryz.f105 [Z10,Z10,Z6] [Z10,Z2,Z2] [true,false,false] x=mref05_together N x:=(jz73 N x).trans (by rw [funext (iterR_eq ez73_0 (bz73_0 N) N)];rfl)
def cref05_together (x:Y3×Y3×Y5):Option (Y3×Int×Int):=mref05_together big x
def Gz73:Fn2:=⟨[Z10,Z10,Z6],[Z10,Z2,Z2],[true,false,false],fun x=>cref05_together x⟩
theorem Lz73:Rises Tryz.prog 105 Gz73:=rises_of (E:=Ez73) ⟨tabOk,(fsCons2 Lz72 fsNil2),fun _ _ _=>rfl,mixed,inlNil,rcsNil,owsNil⟩ Tryz.func105 rfl (by decide) (by kernel_rfl) (by kernel_rfl) (by kernel_rfl) (by kernel_rfl) (fun x r _ h=>⟨Tz73,6,big,(lz73 big x).trans h⟩)
def Tz74:LT:={ live:=[(3,[0,4,5,6])],keep:=[] }
noncomputable def Ez74:Env2:={ tab:=tab,fs:=[(105,Gz73)],inl:=[] }
noncomputable def ez74_0 (v:Y6×Int×Y3×Y3):St:={ s:=[(0,(.val ⟨Z11,v.1⟩)),(4,(.row 0)),(5,(.row 1)),(6,(.val ⟨Z2,v.2.1⟩))],l:=[(0,.row Z2 v.2.2.1),(1,.row Z2 v.2.2.2)],k:=[],b:=4096 }
def href05_Sizes_0 (self0:Y6×Int×Y3×Y3→Option (Y3×Y3)) (v:Y6×Int×Y3×Y3):Option (Y3×Y3):=
 (bif (decide (v.2.1 < (List.length v.1:Int))) then ((getI v.1 v.2.1).bind fun x1=>(bif (x1.1==(1:Int)) then (let x2:Y3:=([(1:Int)]:Y3);(bif (Nat.ble 1 1&&Nat.ble (List.length v.2.2.1+List.length x2) lim) then (let x3:Y3:=([(1:Int)]:Y3);(bif (Nat.ble 1 1&&Nat.ble (List.length v.2.2.2+List.length x3) lim) then (let x4:Int:=(IntKind.i64.wrap (v.2.1+(1:Int)));(self0 (v.1,x4,(List.append v.2.2.1 x2),(List.append v.2.2.2 x3)))) else none)) else none)) else (bif (x1.1==(3:Int)) then (let x5:Y3:=([(16:Int)]:Y3);(bif (Nat.ble 1 1&&Nat.ble (List.length v.2.2.1+List.length x5) lim) then (let x6:Y3:=([(8:Int)]:Y3);(bif (Nat.ble 1 1&&Nat.ble (List.length v.2.2.2+List.length x6) lim) then (let x7:Int:=(IntKind.i64.wrap (v.2.1+(1:Int)));(self0 (v.1,x7,(List.append v.2.2.1 x5),(List.append v.2.2.2 x6)))) else none)) else none)) else (bif (x1.1==(7:Int)) then (let x8:Y3:=([(24:Int)]:Y3);(bif (Nat.ble 1 1&&Nat.ble (List.length v.2.2.1+List.length x8) lim) then (let x9:Y3:=([(8:Int)]:Y3);(bif (Nat.ble 1 1&&Nat.ble (List.length v.2.2.2+List.length x9) lim) then (let x10:Int:=(IntKind.i64.wrap (v.2.1+(1:Int)));(self0 (v.1,x10,(List.append v.2.2.1 x8),(List.append v.2.2.2 x9)))) else none)) else none)) else (bif (x1.1==(6:Int)) then ((getI v.1 v.2.1).bind fun x11=>((getI v.1 v.2.1).bind fun x12=>(bif (decide (0≤x12.2.1)&&decide (x12.2.1 < (List.length v.2.2.1:Int))) then ((nth v.2.2.1 (Int.toNat x12.2.1)).bind fun x13=>(let x14:Int:=(IntKind.i64.wrap (x11.2.2.1 * x13));(let x15:Int:=(if x14 < (1000000:Int) then x14 else (1000000:Int));((getI v.1 v.2.1).bind fun x16=>(bif (decide (0≤x16.2.1)&&decide (x16.2.1 < (List.length v.2.2.2:Int))) then ((nth v.2.2.2 (Int.toNat x16.2.1)).bind fun x17=>(bif (Nat.ble 1 1&&Nat.ble (List.length v.2.2.1+List.length ([x15]:Y3)) lim) then (let x18:Y3:=(List.append v.2.2.1 ([x15]:Y3));(bif (Nat.ble 1 1&&Nat.ble (List.length v.2.2.2+List.length ([x17]:Y3)) lim) then (let x19:Y3:=(List.append v.2.2.2 ([x17]:Y3));(let x20:Int:=(IntKind.i64.wrap (v.2.1+(1:Int)));(self0 (v.1,x20,x18,x19)))) else none)) else none)) else none))))) else none))) else (bif (x1.1==(5:Int)) then ((getI v.1 v.2.1).bind fun x21=>((cref05_together (v.2.2.1,v.2.2.2,x21.2.2.2.1)).bind fun x22=>(bif (Nat.ble 1 1&&Nat.ble (List.length v.2.2.1+List.length ([x22.2.1]:Y3)) lim) then (let x23:Y3:=(List.append v.2.2.1 ([x22.2.1]:Y3));(bif (Nat.ble 1 1&&Nat.ble (List.length v.2.2.2+List.length ([x22.2.2]:Y3)) lim) then (let x24:Y3:=(List.append v.2.2.2 ([x22.2.2]:Y3));(let x25:Int:=(IntKind.i64.wrap (v.2.1+(1:Int)));(self0 (v.1,x25,x23,x24)))) else none)) else none))) else (let x26:Y3:=([(8:Int)]:Y3);(bif (Nat.ble 1 1&&Nat.ble (List.length v.2.2.1+List.length x26) lim) then (let x27:Y3:=(List.append v.2.2.1 x26);(let x28:Y3:=([(8:Int)]:Y3);(bif (Nat.ble 1 1&&Nat.ble (List.length v.2.2.2+List.length x28) lim) then (let x29:Y3:=(List.append v.2.2.2 x28);(let x30:Int:=(IntKind.i64.wrap (v.2.1+(1:Int)));(self0 (v.1,x30,x27,x29)))) else none))) else none)))))))) else (some (v.2.2.1,v.2.2.2)))
def gref05_Sizes_0 (N:Nat) (self0:Y6×Int×Y3×Y3→Option (Y3×Y3)) (v:Y6×Int×Y3×Y3):Option (Y3×Y3):=href05_Sizes_0 self0 v
theorem kz74_0 (N:Nat) (s0:St→Option (Y3×Y3)) (v):(floc (Ez74) Tz74 6 N Tryz.f69 [Z10,Z10] [true,false] [] 0 nowhereR) s0 (ez74_0 v)=href05_Sizes_0 (fun v=>s0 (ez74_0 v)) v:=by kernel_rfl
theorem bz74_0 (N:Nat) (s0:St→Option (Y3×Y3)) (v):(floc (Ez74) Tz74 6 N Tryz.f69 [Z10,Z10] [true,false] [] 0 nowhereR) s0 (ez74_0 v)=gref05_Sizes_0 N (fun v=>s0 (ez74_0 v)) v:=kz74_0 N s0 v
def nref05_Sizes (loop0:Y6×Int×Y3×Y3→Option (Y3×Y3)) (x:Y6):Option (Y3×Y3):=
 (loop0 (x,(0:Int),([]:List Int),([]:List Int)))
def mref05_Sizes (N:Nat) (x:Y6):Option (Y3×Y3):=nref05_Sizes (iterV (gref05_Sizes_0 N) N) x
theorem jz74 (N:Nat) (x:Y6):rise (Ez74) Tz74 6 N Tryz.f69 [Z11] [Z10,Z10] [true,false] x=nref05_Sizes (fun v=>iterR (floc (Ez74) Tz74 6 N Tryz.f69 [Z10,Z10] [true,false] [] 0 nowhereR) N (ez74_0 v)) x:=by kernel_rfl
theorem lz74 (N:Nat) (x:Y6):rise (Ez74) Tz74 6 N Tryz.f69 [Z11] [Z10,Z10] [true,false] x=mref05_Sizes N x:=(jz74 N x).trans (by rw [funext (iterR_eq ez74_0 (bz74_0 N) N)];rfl)
def cref05_Sizes (x:Y6):Option (Y3×Y3):=mref05_Sizes big x
def Gz74:Fn2:=⟨[Z11],[Z10,Z10],[true,false],fun x=>cref05_Sizes x⟩
theorem Lz74:Rises Tryz.prog 69 Gz74:=rises_of (E:=Ez74) ⟨tabOk,(fsCons2 Lz73 fsNil2),fun _ _ _=>rfl,mixed,inlNil,rcsNil,owsNil⟩ Tryz.func69 rfl (by decide) (by kernel_rfl) (by kernel_rfl) (by kernel_rfl) (by kernel_rfl) (fun x r _ h=>⟨Tz74,6,big,(lz74 big x).trans h⟩)
def Tz75:LT:={ live:=[],keep:=[],cnd:=[10,13,19,39,45,50] }
noncomputable def Ez75:Env2:={ tab:=tab,fs:=[],inl:=[] }
def nref06_Shape (x:Int):Option (Y3):=
 (bif (x==(1:Int)) then (some ([119,110,45]:List Int)) else (bif (x==(2:Int)) then (some ([119,116,45]:List Int)) else (bif (x==(3:Int)) then (some ([119,98,45]:List Int)) else (bif (x==(4:Int)) then (some ([119,45,45]:List Int)) else (bif (x==(15:Int)) then (some ([119,45,45]:List Int)) else (bif (x==(5:Int)) then (some ([119,114,45]:List Int)) else (bif (x==(12:Int)) then (some ([119,114,45]:List Int)) else (bif (x==(16:Int)) then (some ([119,114,45]:List Int)) else (bif (x==(18:Int)) then (some ([119,114,45]:List Int)) else (bif (x==(21:Int)) then (some ([119,114,45]:List Int)) else (bif (x==(6:Int)) then (some ([119,114,114]:List Int)) else (bif (x==(7:Int)) then (some ([119,114,114]:List Int)) else (bif (x==(8:Int)) then (some ([119,114,114]:List Int)) else (bif (x==(9:Int)) then (some ([119,114,114]:List Int)) else (bif (x==(10:Int)) then (some ([119,114,114]:List Int)) else (bif (x==(11:Int)) then (some ([119,114,114]:List Int)) else (bif (x==(19:Int)) then (some ([119,114,114]:List Int)) else (bif (x==(13:Int)) then (some ([119,114,102]:List Int)) else (bif (x==(14:Int)) then (some ([114,102,114]:List Int)) else (bif (x==(17:Int)) then (some ([114,114,45]:List Int)) else (bif (x==(20:Int)) then (some ([114,114,114]:List Int)) else (bif (x==(22:Int)) then (some ([105,45,45]:List Int)) else (bif (x==(23:Int)) then (some ([114,105,45]:List Int)) else (bif (x==(24:Int)) then (some ([114,45,45]:List Int)) else (bif (x==(28:Int)) then (some ([114,45,45]:List Int)) else (bif (x==(32:Int)) then (some ([114,45,45]:List Int)) else (bif (x==(25:Int)) then (some ([103,99,45]:List Int)) else (bif (x==(26:Int)) then (some ([99,45,45]:List Int)) else (bif (x==(27:Int)) then (some ([99,45,45]:List Int)) else (bif (x==(29:Int)) then (some ([119,119,45]:List Int)) else (bif (x==(30:Int)) then (some ([45,45,45]:List Int)) else (bif (x==(31:Int)) then (some ([45,45,45]:List Int)) else (bif (x==(33:Int)) then (some ([119,114,45]:List Int)) else (bif (x==(34:Int)) then (some ([101,45,45]:List Int)) else (some ([]:List Int))))))))))))))))))))))))))))))))))))
def mref06_Shape (N:Nat) (x:Int):Option (Y3):=nref06_Shape x
theorem jz75 (N:Nat) (x:Int):rise (Ez75) Tz75 6 N Tryz.f100 [Z9] [.str] [false] x=nref06_Shape x:=by kernel_rfl
theorem lz75 (N:Nat) (x:Int):rise (Ez75) Tz75 6 N Tryz.f100 [Z9] [.str] [false] x=mref06_Shape N x:=(jz75 N x).trans rfl
def cref06_Shape (x:Int):Option (Y3):=mref06_Shape big x
def Gz75:Fn2:=⟨[Z9],[.str],[false],fun x=>cref06_Shape x⟩
theorem Lz75:Rises Tryz.prog 100 Gz75:=rises_of (E:=Ez75) ⟨tabOk,fsNil2,fun _ _ _=>rfl,mixed,inlNil,rcsNil,owsNil⟩ Tryz.func100 rfl (by decide) (by kernel_rfl) (by kernel_rfl) (by kernel_rfl) (by kernel_rfl) (fun x r _ h=>⟨Tz75,6,big,(lz75 big x).trans h⟩)
def Tz76:LT:={ live:=[],keep:=[] }
noncomputable def Ez76:Env2:={ tab:=tab,fs:=[],inl:=[] }
def nref06_Operands (x:Y7):Option (Y3):=
 (let x1:Y3:=[x.2.1,x.2.2.1,x.2.2.2.1];(some x1))
def mref06_Operands (N:Nat) (x:Y7):Option (Y3):=nref06_Operands x
theorem jz76 (N:Nat) (x:Y7):rise (Ez76) Tz76 6 N Tryz.f101 [Z4] [(.arr 3 Z2)] [false] x=nref06_Operands x:=by kernel_rfl
theorem lz76 (N:Nat) (x:Y7):rise (Ez76) Tz76 6 N Tryz.f101 [Z4] [(.arr 3 Z2)] [false] x=mref06_Operands N x:=(jz76 N x).trans rfl
def cref06_Operands (x:Y7):Option (Y3):=mref06_Operands big x
def Gz76:Fn2:=⟨[Z4],[(.arr 3 Z2)],[false],fun x=>cref06_Operands x⟩
theorem Lz76:Rises Tryz.prog 101 Gz76:=rises_of (E:=Ez76) ⟨tabOk,fsNil2,fun _ _ _=>rfl,mixed,inlNil,rcsNil,owsNil⟩ Tryz.func101 rfl (by decide) (by kernel_rfl) (by kernel_rfl) (by kernel_rfl) (by kernel_rfl) (fun x r _ h=>⟨Tz76,6,big,(lz76 big x).trans h⟩)
def Tz77:LT:={ live:=[],keep:=[] }
noncomputable def Ez77:Env2:={ tab:=tab,fs:=[],inl:=[] }
def nref06_Fits (x:Int×Int):Option (Bool):=
 (bif (x.1==(45:Int)) then (some (x.2==(0:Int))) else (bif (x.1==(119:Int)) then (bif (x.1==(119:Int)) then (bif (decide (x.2≥(0:Int))) then (some (decide (x.2 < (16:Int)))) else (some false)) else (bif (x.1==(103:Int)) then (bif (x.1==(103:Int)) then (bif (decide (x.2≥(-1:Int))) then (some (decide (x.2 < (16:Int)))) else (some false)) else (bif (x.1==(116:Int)) then (bif (x.1==(116:Int)) then (bif (decide (x.2≥(0:Int))) then (some (decide (x.2 < (32:Int)))) else (some false)) else (bif (x.1==(98:Int)) then (bif (decide (x.2≥(0:Int))) then (some (decide (x.2 < (2:Int)))) else (some false)) else (bif (x.1==(102:Int)) then (bif (decide (x.2≥(0:Int))) then (some (decide (x.2 < (8:Int)))) else (some false)) else (bif (x.1==(105:Int)) then (bif (decide (x.2≥(0:Int))) then (some (decide (x.2 < (200:Int)))) else (some false)) else (some true))))) else (bif (x.1==(99:Int)) then (bif (decide (x.2≥(0:Int))) then (some (decide (x.2 < (32:Int)))) else (some false)) else (bif (x.1==(98:Int)) then (bif (decide (x.2≥(0:Int))) then (some (decide (x.2 < (2:Int)))) else (some false)) else (bif (x.1==(102:Int)) then (bif (decide (x.2≥(0:Int))) then (some (decide (x.2 < (8:Int)))) else (some false)) else (bif (x.1==(105:Int)) then (bif (decide (x.2≥(0:Int))) then (some (decide (x.2 < (200:Int)))) else (some false)) else (some true))))))) else (bif (x.1==(101:Int)) then (bif (decide (x.2≥(-1:Int))) then (some (decide (x.2 < (16:Int)))) else (some false)) else (bif (x.1==(116:Int)) then (bif (x.1==(116:Int)) then (bif (decide (x.2≥(0:Int))) then (some (decide (x.2 < (32:Int)))) else (some false)) else (bif (x.1==(98:Int)) then (bif (decide (x.2≥(0:Int))) then (some (decide (x.2 < (2:Int)))) else (some false)) else (bif (x.1==(102:Int)) then (bif (decide (x.2≥(0:Int))) then (some (decide (x.2 < (8:Int)))) else (some false)) else (bif (x.1==(105:Int)) then (bif (decide (x.2≥(0:Int))) then (some (decide (x.2 < (200:Int)))) else (some false)) else (some true))))) else (bif (x.1==(99:Int)) then (bif (decide (x.2≥(0:Int))) then (some (decide (x.2 < (32:Int)))) else (some false)) else (bif (x.1==(98:Int)) then (bif (decide (x.2≥(0:Int))) then (some (decide (x.2 < (2:Int)))) else (some false)) else (bif (x.1==(102:Int)) then (bif (decide (x.2≥(0:Int))) then (some (decide (x.2 < (8:Int)))) else (some false)) else (bif (x.1==(105:Int)) then (bif (decide (x.2≥(0:Int))) then (some (decide (x.2 < (200:Int)))) else (some false)) else (some true))))))))) else (bif (x.1==(114:Int)) then (bif (decide (x.2≥(0:Int))) then (some (decide (x.2 < (16:Int)))) else (some false)) else (bif (x.1==(103:Int)) then (bif (x.1==(103:Int)) then (bif (decide (x.2≥(-1:Int))) then (some (decide (x.2 < (16:Int)))) else (some false)) else (bif (x.1==(116:Int)) then (bif (x.1==(116:Int)) then (bif (decide (x.2≥(0:Int))) then (some (decide (x.2 < (32:Int)))) else (some false)) else (bif (x.1==(98:Int)) then (bif (decide (x.2≥(0:Int))) then (some (decide (x.2 < (2:Int)))) else (some false)) else (bif (x.1==(102:Int)) then (bif (decide (x.2≥(0:Int))) then (some (decide (x.2 < (8:Int)))) else (some false)) else (bif (x.1==(105:Int)) then (bif (decide (x.2≥(0:Int))) then (some (decide (x.2 < (200:Int)))) else (some false)) else (some true))))) else (bif (x.1==(99:Int)) then (bif (decide (x.2≥(0:Int))) then (some (decide (x.2 < (32:Int)))) else (some false)) else (bif (x.1==(98:Int)) then (bif (decide (x.2≥(0:Int))) then (some (decide (x.2 < (2:Int)))) else (some false)) else (bif (x.1==(102:Int)) then (bif (decide (x.2≥(0:Int))) then (some (decide (x.2 < (8:Int)))) else (some false)) else (bif (x.1==(105:Int)) then (bif (decide (x.2≥(0:Int))) then (some (decide (x.2 < (200:Int)))) else (some false)) else (some true))))))) else (bif (x.1==(101:Int)) then (bif (decide (x.2≥(-1:Int))) then (some (decide (x.2 < (16:Int)))) else (some false)) else (bif (x.1==(116:Int)) then (bif (x.1==(116:Int)) then (bif (decide (x.2≥(0:Int))) then (some (decide (x.2 < (32:Int)))) else (some false)) else (bif (x.1==(98:Int)) then (bif (decide (x.2≥(0:Int))) then (some (decide (x.2 < (2:Int)))) else (some false)) else (bif (x.1==(102:Int)) then (bif (decide (x.2≥(0:Int))) then (some (decide (x.2 < (8:Int)))) else (some false)) else (bif (x.1==(105:Int)) then (bif (decide (x.2≥(0:Int))) then (some (decide (x.2 < (200:Int)))) else (some false)) else (some true))))) else (bif (x.1==(99:Int)) then (bif (decide (x.2≥(0:Int))) then (some (decide (x.2 < (32:Int)))) else (some false)) else (bif (x.1==(98:Int)) then (bif (decide (x.2≥(0:Int))) then (some (decide (x.2 < (2:Int)))) else (some false)) else (bif (x.1==(102:Int)) then (bif (decide (x.2≥(0:Int))) then (some (decide (x.2 < (8:Int)))) else (some false)) else (bif (x.1==(105:Int)) then (bif (decide (x.2≥(0:Int))) then (some (decide (x.2 < (200:Int)))) else (some false)) else (some true)))))))))))
def mref06_Fits (N:Nat) (x:Int×Int):Option (Bool):=nref06_Fits x
theorem jz77 (N:Nat) (x:Int×Int):rise (Ez77) Tz77 6 N Tryz.f135 [Z9,Z2] [.bool] [false] x=nref06_Fits x:=by kernel_rfl
theorem lz77 (N:Nat) (x:Int×Int):rise (Ez77) Tz77 6 N Tryz.f135 [Z9,Z2] [.bool] [false] x=mref06_Fits N x:=(jz77 N x).trans rfl
def cref06_Fits (x:Int×Int):Option (Bool):=mref06_Fits big x
def Gz77:Fn2:=⟨[Z9,Z2],[.bool],[false],fun x=>cref06_Fits x⟩
theorem Lz77:Rises Tryz.prog 135 Gz77:=rises_of (E:=Ez77) ⟨tabOk,fsNil2,fun _ _ _=>rfl,mixed,inlNil,rcsNil,owsNil⟩ Tryz.func135 rfl (by decide) (by kernel_rfl) (by kernel_rfl) (by kernel_rfl) (by kernel_rfl) (fun x r _ h=>⟨Tz77,6,big,(lz77 big x).trans h⟩)
def Tz78:LT:={ live:=[(5,[3,4,5])],keep:=[] }
noncomputable def Ez78:Env2:={ tab:=tab,fs:=[(100,Gz75),(101,Gz76),(135,Gz77)],inl:=[] }
noncomputable def ez78_0 (v:Y3×Int×Y3):St:={ s:=[(3,(.val ⟨.str,v.1⟩)),(4,(.loc 0 [])),(5,(.val ⟨Z2,v.2.1⟩))],l:=[(0,.var (.arr 3 Z2) (.val ⟨(.arr 3 Z2),v.2.2⟩))],k:=[],b:=4096 }
def href06_Check_0 (self0:Y3×Int×Y3→Option (Int)) (v:Y3×Int×Y3):Option (Int):=
 (bif (decide (v.2.1 < (3:Int))) then ((getI v.1 v.2.1).bind fun x3=>(bif (decide (0≤v.2.1)&&decide (v.2.1 < (3:Int))) then ((nth v.2.2 (Int.toNat v.2.1)).bind fun x4=>((cref06_Fits (x3,x4)).bind fun x5=>(bif (!x5) then (some (8:Int)) else (let x6:Int:=(IntKind.i64.wrap (v.2.1+(1:Int)));(self0 (v.1,x6,v.2.2)))))) else none)) else (some (0:Int)))
def gref06_Check_0 (N:Nat) (self0:Y3×Int×Y3→Option (Int)) (v:Y3×Int×Y3):Option (Int):=href06_Check_0 self0 v
theorem kz78_0 (N:Nat) (s0:St→Option (Int)) (v):(floc (Ez78) Tz78 6 N Tryz.f108 [Z2] [false] [] 0 nowhereR) s0 (ez78_0 v)=href06_Check_0 (fun v=>s0 (ez78_0 v)) v:=by kernel_rfl
theorem bz78_0 (N:Nat) (s0:St→Option (Int)) (v):(floc (Ez78) Tz78 6 N Tryz.f108 [Z2] [false] [] 0 nowhereR) s0 (ez78_0 v)=gref06_Check_0 N (fun v=>s0 (ez78_0 v)) v:=kz78_0 N s0 v
def nref06_Check (loop0:Y3×Int×Y3→Option (Int)) (x:Y7):Option (Int):=
 ((cref06_Shape x.1).bind fun x1=>((cref06_Operands x).bind fun x2=>(bif ((List.length x1:Int) != (3:Int)) then (some (8:Int)) else (loop0 (x1,(0:Int),x2)))))
def mref06_Check (N:Nat) (x:Y7):Option (Int):=nref06_Check (iterV (gref06_Check_0 N) N) x
theorem jz78 (N:Nat) (x:Y7):rise (Ez78) Tz78 6 N Tryz.f108 [Z4] [Z2] [false] x=nref06_Check (fun v=>iterR (floc (Ez78) Tz78 6 N Tryz.f108 [Z2] [false] [] 0 nowhereR) N (ez78_0 v)) x:=by kernel_rfl
theorem lz78 (N:Nat) (x:Y7):rise (Ez78) Tz78 6 N Tryz.f108 [Z4] [Z2] [false] x=mref06_Check N x:=(jz78 N x).trans (by rw [funext (iterR_eq ez78_0 (bz78_0 N) N)];rfl)
def cref06_Check (x:Y7):Option (Int):=mref06_Check big x
def Gz78:Fn2:=⟨[Z4],[Z2],[false],fun x=>cref06_Check x⟩
theorem Lz78:Rises Tryz.prog 108 Gz78:=rises_of (E:=Ez78) ⟨tabOk,(fsCons2 Lz75 (fsCons2 Lz76 (fsCons2 Lz77 fsNil2))),fun _ _ _=>rfl,mixed,inlNil,rcsNil,owsNil⟩ Tryz.func108 rfl (by decide) (by kernel_rfl) (by kernel_rfl) (by kernel_rfl) (by kernel_rfl) (fun x r _ h=>⟨Tz78,6,big,(lz78 big x).trans h⟩)
def Tz79:LT:={ live:=[(4,[0,1,5])],keep:=[] }
noncomputable def Ez79:Env2:={ tab:=tab,fs:=[],inl:=[] }
noncomputable def ez79_0 (v:Y8×Int×Int):St:={ s:=[(0,(.val ⟨(.slice Z7),v.1⟩)),(1,(.val ⟨Z2,v.2.1⟩)),(5,(.val ⟨Z2,v.2.2⟩))],l:=[],k:=[],b:=4096 }
def href08_Fine_0 (self0:Y8×Int×Int→Option (Bool)) (v:Y8×Int×Int):Option (Bool):=
 (bif (decide (v.2.2 < (List.length v.1:Int))) then ((getI v.1 v.2.2).bind fun x2=>(bif (decide (x2.1≥v.2.1)) then (some false) else (bif (decide (v.2.2 > (0:Int))) then (let x3:Int:=(IntKind.i64.wrap (v.2.2 - (1:Int)));((getI v.1 x3).bind fun x4=>((getI v.1 v.2.2).bind fun x5=>(bif (decide (x4.1≥x5.1)) then (some false) else (let x6:Int:=(IntKind.i64.wrap (v.2.2 - (1:Int)));((getI v.1 x6).bind fun x7=>((getI v.1 v.2.2).bind fun x8=>(bif (x7.2.1==x8.2.1) then (some false) else (let x9:Int:=(IntKind.i64.wrap (v.2.2+(1:Int)));(self0 (v.1,v.2.1,x9))))))))))) else (let x10:Int:=(IntKind.i64.wrap (v.2.2+(1:Int)));(self0 (v.1,v.2.1,x10)))))) else (some true))
def gref08_Fine_0 (N:Nat) (self0:Y8×Int×Int→Option (Bool)) (v:Y8×Int×Int):Option (Bool):=href08_Fine_0 self0 v
theorem kz79_0 (N:Nat) (s0:St→Option (Bool)) (v):(floc (Ez79) Tz79 6 N Tryz.f109 [.bool] [false] [] 0 nowhereR) s0 (ez79_0 v)=href08_Fine_0 (fun v=>s0 (ez79_0 v)) v:=by kernel_rfl
theorem bz79_0 (N:Nat) (s0:St→Option (Bool)) (v):(floc (Ez79) Tz79 6 N Tryz.f109 [.bool] [false] [] 0 nowhereR) s0 (ez79_0 v)=gref08_Fine_0 N (fun v=>s0 (ez79_0 v)) v:=kz79_0 N s0 v
def nref08_Fine (loop0:Y8×Int×Int→Option (Bool)) (x:Y8×Int):Option (Bool):=
 (bif (decide ((List.length x.1:Int) < (1:Int))) then (some false) else ((getI x.1 (0:Int)).bind fun x1=>(bif (x1.1 != (0:Int)) then (some false) else (loop0 (x.1,x.2,(0:Int))))))
def mref08_Fine (N:Nat) (x:Y8×Int):Option (Bool):=nref08_Fine (iterV (gref08_Fine_0 N) N) x
theorem jz79 (N:Nat) (x:Y8×Int):rise (Ez79) Tz79 6 N Tryz.f109 [(.slice Z7),Z2] [.bool] [false] x=nref08_Fine (fun v=>iterR (floc (Ez79) Tz79 6 N Tryz.f109 [.bool] [false] [] 0 nowhereR) N (ez79_0 v)) x:=by kernel_rfl
theorem lz79 (N:Nat) (x:Y8×Int):rise (Ez79) Tz79 6 N Tryz.f109 [(.slice Z7),Z2] [.bool] [false] x=mref08_Fine N x:=(jz79 N x).trans (by rw [funext (iterR_eq ez79_0 (bz79_0 N) N)];rfl)
def cref08_Fine (x:Y8×Int):Option (Bool):=mref08_Fine big x
def Gz79:Fn2:=⟨[(.slice Z7),Z2],[.bool],[false],fun x=>cref08_Fine x⟩
theorem Lz79:Rises Tryz.prog 109 Gz79:=rises_of (E:=Ez79) ⟨tabOk,fsNil2,fun _ _ _=>rfl,mixed,inlNil,rcsNil,owsNil⟩ Tryz.func109 rfl (by decide) (by kernel_rfl) (by kernel_rfl) (by kernel_rfl) (by kernel_rfl) (fun x r _ h=>⟨Tz79,6,big,(lz79 big x).trans h⟩)
def Tz80:LT:={ live:=[(4,[0,3,5]),(9,[3,6])],keep:=[] }
noncomputable def Ez80:Env2:={ tab:=tab,fs:=[(106,Gz66),(107,Gz67),(108,Gz78),(109,Gz79)],inl:=[] }
noncomputable def ez80_1 (v:Int×Y1):St:={ s:=[(3,(.loc 0 [])),(6,(.val ⟨Z2,v.1⟩))],l:=[(0,.var Z0 (.val ⟨Z0,v.2⟩))],k:=[],b:=4096 }
noncomputable def ez80_0 (v:Y6×Int×Y1):St:={ s:=[(0,(.val ⟨Z11,v.1⟩)),(3,(.loc 0 [])),(5,(.val ⟨Z2,v.2.1⟩))],l:=[(0,.var Z0 (.val ⟨Z0,v.2.2⟩))],k:=[],b:=4096 }
def href09_function_1 (self0:Y6×Int×Y1→Option (Bool)) (self1:Int×Y1→Option (Bool)) (v:Int×Y1):Option (Bool):=
 (bif (decide (v.1 < (List.length v.2.2.2.2.2.1:Int))) then ((getI v.2.2.2.2.2.1 v.1).bind fun x6=>((cref06_Check x6).bind fun x7=>(bif (x7 != (0:Int)) then (some false) else (let x8:Int:=(IntKind.i64.wrap (v.1+(1:Int)));(self1 (x8,v.2)))))) else ((cref08_Fine (v.2.2.2.2.2.2.1,(List.length v.2.2.2.2.2.1:Int))).bind fun x9=>(bif x9 then ((cref08_Fine (v.2.2.2.2.2.2.2.1,(List.length v.2.2.2.2.2.1:Int))).bind fun x10=>(some x10)) else (some false))))
def gref09_function_1 (N:Nat) (self0:Y6×Int×Y1→Option (Bool)) (self1:Int×Y1→Option (Bool)) (v:Int×Y1):Option (Bool):=href09_function_1 self0 self1 v
theorem kz80_1 (N:Nat) (s0:St→Option (Bool)) (s1:St→Option (Bool)) (v):(floc (Ez80) Tz80 6 N Tryz.f70 [.bool] [false] [] 1 nowhereR) s1 (ez80_1 v)=href09_function_1 (fun v=>s0 (ez80_0 v)) (fun v=>s1 (ez80_1 v)) v:=by kernel_rfl
theorem bz80_1 (N:Nat) (s0:St→Option (Bool)) (s1:St→Option (Bool)) (v):(floc (Ez80) Tz80 6 N Tryz.f70 [.bool] [false] [] 1 nowhereR) s1 (ez80_1 v)=gref09_function_1 N (fun v=>s0 (ez80_0 v)) (fun v=>s1 (ez80_1 v)) v:=kz80_1 N s0 s1 v
def href09_function_0 (loop1:Int×Y1→Option (Bool)) (self0:Y6×Int×Y1→Option (Bool)) (v:Y6×Int×Y1):Option (Bool):=
 (bif (decide (v.2.1 < (List.length v.2.2.2.2.2.1:Int))) then ((getI v.2.2.2.2.2.1 v.2.1).bind fun x3=>(bif (decide (x3.2.1 < (0:Int))) then (some false) else ((getI v.2.2.2.2.2.1 v.2.1).bind fun x4=>(bif (decide (x4.2.1≥(List.length v.1:Int))) then (some false) else (let x5:Int:=(IntKind.i64.wrap (v.2.1+(1:Int)));(self0 (v.1,x5,v.2.2))))))) else (loop1 ((0:Int),v.2.2)))
def gref09_function_0 (N:Nat) (self0:Y6×Int×Y1→Option (Bool)) (v:Y6×Int×Y1):Option (Bool):=href09_function_0 (iterV (gref09_function_1 N self0) N) self0 v
theorem kz80_0 (N:Nat) (s0:St→Option (Bool)) (v):(floc (Ez80) Tz80 6 N Tryz.f70 [.bool] [false] [] 0 nowhereR) s0 (ez80_0 v)=href09_function_0 (fun v=>iterR (floc (Ez80) Tz80 6 N Tryz.f70 [.bool] [false] [] 1 nowhereR) N (ez80_1 v)) (fun v=>s0 (ez80_0 v)) v:=by kernel_rfl
theorem bz80_0 (N:Nat) (s0:St→Option (Bool)) (v):(floc (Ez80) Tz80 6 N Tryz.f70 [.bool] [false] [] 0 nowhereR) s0 (ez80_0 v)=gref09_function_0 N (fun v=>s0 (ez80_0 v)) v:=(kz80_0 N s0 v).trans (by rw [funext (iterR_eq ez80_1 (bz80_1 N s0) N)];rfl)
def nref09_function (loop0:Y6×Int×Y1→Option (Bool)) (x:Y6×Y1):Option (Bool):=
 ((cref04_Named x.2.1).bind fun x1=>(bif (!x1) then (some false) else ((cref04_Fields (x.2.2.2.2.1,(16:Int))).bind fun x2=>(bif (!x2) then (some false) else (bif (decide (x.2.2.1 < (0:Int))) then (some false) else (bif (decide (x.2.2.1 > (List.length x.2.2.2.2.1:Int))) then (some false) else (bif (decide (x.2.2.2.1 < (-1:Int))) then (some false) else (bif (decide (x.2.2.2.1≥(List.length x.1:Int))) then (some false) else (bif (decide ((List.length x.2.2.2.2.2.1:Int) < (1:Int))) then (some false) else (bif (decide ((List.length x.2.2.2.2.2.1:Int) > (200:Int))) then (some false) else (loop0 (x.1,(0:Int),x.2))))))))))))
def mref09_function (N:Nat) (x:Y6×Y1):Option (Bool):=nref09_function (iterV (gref09_function_0 N) N) x
theorem jz80 (N:Nat) (x:Y6×Y1):rise (Ez80) Tz80 6 N Tryz.f70 [Z11,Z0] [.bool] [false] x=nref09_function (fun v=>iterR (floc (Ez80) Tz80 6 N Tryz.f70 [.bool] [false] [] 0 nowhereR) N (ez80_0 v)) x:=by kernel_rfl
theorem lz80 (N:Nat) (x:Y6×Y1):rise (Ez80) Tz80 6 N Tryz.f70 [Z11,Z0] [.bool] [false] x=mref09_function N x:=(jz80 N x).trans (by rw [funext (iterR_eq ez80_0 (bz80_0 N) N)];rfl)
def cref09_function (x:Y6×Y1):Option (Bool):=mref09_function big x
def Gz80:Fn2:=⟨[Z11,Z0],[.bool],[false],fun x=>cref09_function x⟩
theorem Lz80:Rises Tryz.prog 70 Gz80:=rises_of (E:=Ez80) ⟨tabOk,(fsCons2 Lz66 (fsCons2 Lz67 (fsCons2 Lz78 (fsCons2 Lz79 fsNil2)))),fun _ _ _=>rfl,mixed,inlNil,rcsNil,owsNil⟩ Tryz.func70 rfl (by decide) (by kernel_rfl) (by kernel_rfl) (by kernel_rfl) (by kernel_rfl) (fun x r _ h=>⟨Tz80,6,big,(lz80 big x).trans h⟩)
def Tz81:LT:={ live:=[(5,[1,3,5]),(10,[1,6]),(15,[1,7]),(20,[1,7,8])],keep:=[] }
noncomputable def Ez81:Env2:={ tab:=tab,fs:=[(68,Gz71),(69,Gz74),(70,Gz80)],inl:=[] }
noncomputable def ez81_3 (v:Int×Int×Y0):St:={ s:=[(1,(.loc 0 [])),(7,(.val ⟨Z2,v.1⟩)),(8,(.val ⟨Z2,v.2.1⟩))],l:=[(0,.var Z3 (.val ⟨Z3,v.2.2⟩))],k:=[],b:=4096 }
noncomputable def ez81_2 (v:Int×Y0):St:={ s:=[(1,(.loc 0 [])),(7,(.val ⟨Z2,v.1⟩))],l:=[(0,.var Z3 (.val ⟨Z3,v.2⟩))],k:=[],b:=4096 }
noncomputable def ez81_1 (v:Int×Y0):St:={ s:=[(1,(.loc 0 [])),(6,(.val ⟨Z2,v.1⟩))],l:=[(0,.var Z3 (.val ⟨Z3,v.2⟩))],k:=[],b:=4096 }
noncomputable def ez81_0 (v:Y11):St:={ s:=[(1,(.loc 0 [])),(3,(.row 1)),(5,(.val ⟨Z2,v.1⟩))],l:=[(0,.var Z3 (.val ⟨Z3,v.2.1⟩)),(1,.row Z2 v.2.2)],k:=[],b:=4096 }
def href09_Fine_3 (self0:Y11→Option (Bool)) (self1:Int×Y0→Option (Bool)) (self2:Int×Y0→Option (Bool)) (self3:Int×Int×Y0→Option (Bool)) (v:Int×Int×Y0):Option (Bool):=
 (bif (decide (v.2.1 < v.1)) then ((getI v.2.2.2.2.1 v.2.1).bind fun x9=>((getI v.2.2.2.2.1 v.1).bind fun x10=>(bif (eqD .str x9.1 x10.1) then (some false) else (let x11:Int:=(IntKind.i64.wrap (v.2.1+(1:Int)));(self3 (v.1,x11,v.2.2)))))) else (let x12:Int:=(IntKind.i64.wrap (v.1+(1:Int)));(self2 (x12,v.2.2))))
def gref09_Fine_3 (N:Nat) (self0:Y11→Option (Bool)) (self1:Int×Y0→Option (Bool)) (self2:Int×Y0→Option (Bool)) (self3:Int×Int×Y0→Option (Bool)) (v:Int×Int×Y0):Option (Bool):=href09_Fine_3 self0 self1 self2 self3 v
theorem kz81_3 (N:Nat) (s0:St→Option (Bool)) (s1:St→Option (Bool)) (s2:St→Option (Bool)) (s3:St→Option (Bool)) (v):(floc (Ez81) Tz81 6 N Tryz.f38 [.bool] [false] [] 3 (outerR s2 nowhereR)) s3 (ez81_3 v)=href09_Fine_3 (fun v=>s0 (ez81_0 v)) (fun v=>s1 (ez81_1 v)) (fun v=>s2 (ez81_2 v)) (fun v=>s3 (ez81_3 v)) v:=by kernel_rfl
theorem bz81_3 (N:Nat) (s0:St→Option (Bool)) (s1:St→Option (Bool)) (s2:St→Option (Bool)) (s3:St→Option (Bool)) (v):(floc (Ez81) Tz81 6 N Tryz.f38 [.bool] [false] [] 3 (outerR s2 nowhereR)) s3 (ez81_3 v)=gref09_Fine_3 N (fun v=>s0 (ez81_0 v)) (fun v=>s1 (ez81_1 v)) (fun v=>s2 (ez81_2 v)) (fun v=>s3 (ez81_3 v)) v:=kz81_3 N s0 s1 s2 s3 v
def href09_Fine_2 (loop3:Int×Int×Y0→Option (Bool)) (self0:Y11→Option (Bool)) (self1:Int×Y0→Option (Bool)) (self2:Int×Y0→Option (Bool)) (v:Int×Y0):Option (Bool):=
 (bif (decide (v.1 < (List.length v.2.2.2.1:Int))) then ((getI v.2.2.2.1 v.1).bind fun x7=>((cref09_function (v.2.1,x7)).bind fun x8=>(bif (!x8) then (some false) else (loop3 (v.1,(0:Int),v.2))))) else (some true))
def gref09_Fine_2 (N:Nat) (self0:Y11→Option (Bool)) (self1:Int×Y0→Option (Bool)) (self2:Int×Y0→Option (Bool)) (v:Int×Y0):Option (Bool):=href09_Fine_2 (iterV (gref09_Fine_3 N self0 self1 self2) N) self0 self1 self2 v
theorem kz81_2 (N:Nat) (s0:St→Option (Bool)) (s1:St→Option (Bool)) (s2:St→Option (Bool)) (v):(floc (Ez81) Tz81 6 N Tryz.f38 [.bool] [false] [] 2 nowhereR) s2 (ez81_2 v)=href09_Fine_2 (fun v=>iterR (floc (Ez81) Tz81 6 N Tryz.f38 [.bool] [false] [] 3 (outerR s2 nowhereR)) N (ez81_3 v)) (fun v=>s0 (ez81_0 v)) (fun v=>s1 (ez81_1 v)) (fun v=>s2 (ez81_2 v)) v:=by kernel_rfl
theorem bz81_2 (N:Nat) (s0:St→Option (Bool)) (s1:St→Option (Bool)) (s2:St→Option (Bool)) (v):(floc (Ez81) Tz81 6 N Tryz.f38 [.bool] [false] [] 2 nowhereR) s2 (ez81_2 v)=gref09_Fine_2 N (fun v=>s0 (ez81_0 v)) (fun v=>s1 (ez81_1 v)) (fun v=>s2 (ez81_2 v)) v:=(kz81_2 N s0 s1 s2 v).trans (by rw [funext (iterR_eq ez81_3 (bz81_3 N s0 s1 s2) N)];rfl)
def href09_Fine_1 (loop2:Int×Y0→Option (Bool)) (self0:Y11→Option (Bool)) (self1:Int×Y0→Option (Bool)) (v:Int×Y0):Option (Bool):=
 (bif (decide (v.1 < (List.length v.2.2.1:Int))) then ((getI v.2.2.1 v.1).bind fun x5=>(bif (decide ((List.length x5:Int) > (64:Int))) then (some false) else (let x6:Int:=(IntKind.i64.wrap (v.1+(1:Int)));(self1 (x6,v.2))))) else (loop2 ((0:Int),v.2)))
def gref09_Fine_1 (N:Nat) (self0:Y11→Option (Bool)) (self1:Int×Y0→Option (Bool)) (v:Int×Y0):Option (Bool):=href09_Fine_1 (iterV (gref09_Fine_2 N self0 self1) N) self0 self1 v
theorem kz81_1 (N:Nat) (s0:St→Option (Bool)) (s1:St→Option (Bool)) (v):(floc (Ez81) Tz81 6 N Tryz.f38 [.bool] [false] [] 1 nowhereR) s1 (ez81_1 v)=href09_Fine_1 (fun v=>iterR (floc (Ez81) Tz81 6 N Tryz.f38 [.bool] [false] [] 2 nowhereR) N (ez81_2 v)) (fun v=>s0 (ez81_0 v)) (fun v=>s1 (ez81_1 v)) v:=by kernel_rfl
theorem bz81_1 (N:Nat) (s0:St→Option (Bool)) (s1:St→Option (Bool)) (v):(floc (Ez81) Tz81 6 N Tryz.f38 [.bool] [false] [] 1 nowhereR) s1 (ez81_1 v)=gref09_Fine_1 N (fun v=>s0 (ez81_0 v)) (fun v=>s1 (ez81_1 v)) v:=(kz81_1 N s0 s1 v).trans (by rw [funext (iterR_eq ez81_2 (bz81_2 N s0 s1) N)];rfl)
def href09_Fine_0 (loop1:Int×Y0→Option (Bool)) (self0:Y11→Option (Bool)) (v:Y11):Option (Bool):=
 (bif (decide (v.1 < (List.length v.2.2:Int))) then (bif (decide (0≤v.1)&&decide (v.1 < (List.length v.2.2:Int))) then ((nth v.2.2 (Int.toNat v.1)).bind fun x3=>(bif (decide (x3 > (256:Int))) then (some false) else (let x4:Int:=(IntKind.i64.wrap (v.1+(1:Int)));(self0 (x4,v.2.1,v.2.2))))) else none) else (loop1 ((0:Int),v.2.1)))
def gref09_Fine_0 (N:Nat) (self0:Y11→Option (Bool)) (v:Y11):Option (Bool):=href09_Fine_0 (iterV (gref09_Fine_1 N self0) N) self0 v
theorem kz81_0 (N:Nat) (s0:St→Option (Bool)) (v):(floc (Ez81) Tz81 6 N Tryz.f38 [.bool] [false] [] 0 nowhereR) s0 (ez81_0 v)=href09_Fine_0 (fun v=>iterR (floc (Ez81) Tz81 6 N Tryz.f38 [.bool] [false] [] 1 nowhereR) N (ez81_1 v)) (fun v=>s0 (ez81_0 v)) v:=by kernel_rfl
theorem bz81_0 (N:Nat) (s0:St→Option (Bool)) (v):(floc (Ez81) Tz81 6 N Tryz.f38 [.bool] [false] [] 0 nowhereR) s0 (ez81_0 v)=gref09_Fine_0 N (fun v=>s0 (ez81_0 v)) v:=(kz81_0 N s0 v).trans (by rw [funext (iterR_eq ez81_1 (bz81_1 N s0) N)];rfl)
def nref09_Fine (loop0:Y11→Option (Bool)) (x:Y0):Option (Bool):=
 ((cref04_Check x.1).bind fun x1=>(bif (x1 != (0:Int)) then (some false) else (bif (decide ((List.length x.2.1:Int) > (32:Int))) then (some false) else (bif (decide ((List.length x.2.2.1:Int) < (1:Int))) then (some false) else (bif (decide ((List.length x.2.2.1:Int) > (32:Int))) then (some false) else ((cref05_Sizes x.1).bind fun x2=>(loop0 ((0:Int),x,x2.1))))))))
def mref09_Fine (N:Nat) (x:Y0):Option (Bool):=nref09_Fine (iterV (gref09_Fine_0 N) N) x
theorem jz81 (N:Nat) (x:Y0):rise (Ez81) Tz81 6 N Tryz.f38 [Z3] [.bool] [false] x=nref09_Fine (fun v=>iterR (floc (Ez81) Tz81 6 N Tryz.f38 [.bool] [false] [] 0 nowhereR) N (ez81_0 v)) x:=by kernel_rfl
theorem lz81 (N:Nat) (x:Y0):rise (Ez81) Tz81 6 N Tryz.f38 [Z3] [.bool] [false] x=mref09_Fine N x:=(jz81 N x).trans (by rw [funext (iterR_eq ez81_0 (bz81_0 N) N)];rfl)
def cref09_Fine (x:Y0):Option (Bool):=mref09_Fine big x
def Gz81:Fn2:=⟨[Z3],[.bool],[false],fun x=>cref09_Fine x⟩
theorem Lz81:Rises Tryz.prog 38 Gz81:=rises_of (E:=Ez81) ⟨tabOk,(fsCons2 Lz71 (fsCons2 Lz74 (fsCons2 Lz80 fsNil2))),fun _ _ _=>rfl,mixed,inlNil,rcsNil,owsNil⟩ Tryz.func38 rfl (by decide) (by kernel_rfl) (by kernel_rfl) (by kernel_rfl) (by kernel_rfl) (fun x r _ h=>⟨Tz81,6,big,(lz81 big x).trans h⟩)
def Tz82:LT:={ live:=[(2,[0,3])],keep:=[] }
noncomputable def Ez82:Env2:={ tab:=tab,fs:=[],inl:=[] }
noncomputable def ez82_0 (v:Int×Y3):St:={ s:=[(0,(.val ⟨(.int .u64),v.1⟩)),(3,(.row 0))],l:=[(0,.row Z9 v.2)],k:=[],b:=4096 }
def href02_Minimal_0 (self0:Int×Y3→Option (Y3)) (v:Int×Y3):Option (Y3):=
 (bif (decide (v.1≥(128:Int))) then (let x1:Int:=(IntKind.u8.wrap (v.1.tmod (128:Int)));(let x2:Int:=(IntKind.u8.wrap (x1+(128:Int)));(bif (Nat.ble 1 1&&Nat.ble (List.length v.2+List.length ([x2]:Y3)) lim) then (let x3:Y3:=(List.append v.2 ([x2]:Y3));(let x4:Int:=(IntKind.u64.wrap (v.1.tdiv (128:Int)));(self0 (x4,x3)))) else none))) else (let x5:Y3:=([(IntKind.u8.wrap v.1)]:Y3);(bif (Nat.ble 1 1&&Nat.ble (List.length v.2+List.length x5) lim) then (some (List.append v.2 x5)) else none)))
def gref02_Minimal_0 (N:Nat) (self0:Int×Y3→Option (Y3)) (v:Int×Y3):Option (Y3):=href02_Minimal_0 self0 v
theorem kz82_0 (N:Nat) (s0:St→Option (Y3)) (v):(floc (Ez82) Tz82 6 N Tryz.f64 [Z5] [true] [] 0 nowhereR) s0 (ez82_0 v)=href02_Minimal_0 (fun v=>s0 (ez82_0 v)) v:=by kernel_rfl
theorem bz82_0 (N:Nat) (s0:St→Option (Y3)) (v):(floc (Ez82) Tz82 6 N Tryz.f64 [Z5] [true] [] 0 nowhereR) s0 (ez82_0 v)=gref02_Minimal_0 N (fun v=>s0 (ez82_0 v)) v:=kz82_0 N s0 v
def nref02_Minimal (loop0:Int×Y3→Option (Y3)) (x:Int):Option (Y3):=
 (loop0 (x,([]:List Int)))
def mref02_Minimal (N:Nat) (x:Int):Option (Y3):=nref02_Minimal (iterV (gref02_Minimal_0 N) N) x
theorem jz82 (N:Nat) (x:Int):rise (Ez82) Tz82 6 N Tryz.f64 [(.int .u64)] [Z5] [true] x=nref02_Minimal (fun v=>iterR (floc (Ez82) Tz82 6 N Tryz.f64 [Z5] [true] [] 0 nowhereR) N (ez82_0 v)) x:=by kernel_rfl
theorem lz82 (N:Nat) (x:Int):rise (Ez82) Tz82 6 N Tryz.f64 [(.int .u64)] [Z5] [true] x=mref02_Minimal N x:=(jz82 N x).trans (by rw [funext (iterR_eq ez82_0 (bz82_0 N) N)];rfl)
def cref02_Minimal (x:Int):Option (Y3):=mref02_Minimal big x
def Gz82:Fn2:=⟨[(.int .u64)],[Z5],[true],fun x=>cref02_Minimal x⟩
theorem Lz82:Rises Tryz.prog 64 Gz82:=rises_of (E:=Ez82) ⟨tabOk,fsNil2,fun _ _ _=>rfl,mixed,inlNil,rcsNil,owsNil⟩ Tryz.func64 rfl (by decide) (by kernel_rfl) (by kernel_rfl) (by kernel_rfl) (by kernel_rfl) (fun x r _ h=>⟨Tz82,6,big,(lz82 big x).trans h⟩)
def Tz83:LT:={ live:=[],keep:=[] }
noncomputable def Ez83:Env2:={ tab:=tab,fs:=[(64,Gz82)],inl:=[] }
def nref09_number (x:Int):Option (Y3):=
 ((cref02_Minimal (IntKind.u64.wrap x)).bind fun x1=>(some x1))
def mref09_number (N:Nat) (x:Int):Option (Y3):=nref09_number x
theorem jz83 (N:Nat) (x:Int):rise (Ez83) Tz83 6 N Tryz.f61 [Z2] [Z5] [true] x=nref09_number x:=by kernel_rfl
theorem lz83 (N:Nat) (x:Int):rise (Ez83) Tz83 6 N Tryz.f61 [Z2] [Z5] [true] x=mref09_number N x:=(jz83 N x).trans rfl
def cref09_number (x:Int):Option (Y3):=mref09_number big x
def Gz83:Fn2:=⟨[Z2],[Z5],[true],fun x=>cref09_number x⟩
theorem Lz83:Rises Tryz.prog 61 Gz83:=rises_of (E:=Ez83) ⟨tabOk,(fsCons2 Lz82 fsNil2),fun _ _ _=>rfl,mixed,inlNil,rcsNil,owsNil⟩ Tryz.func61 rfl (by decide) (by kernel_rfl) (by kernel_rfl) (by kernel_rfl) (by kernel_rfl) (fun x r _ h=>⟨Tz83,6,big,(lz83 big x).trans h⟩)
def Tz84:LT:={ live:=[],keep:=[] }
noncomputable def Ez84:Env2:={ tab:=tab,fs:=[(64,Gz82)],inl:=[] }
def nref02_Said (x:Y3):Option (Y3):=
 (let x1:Int:=(IntKind.u64.wrap (List.length x:Int));((cref02_Minimal x1).bind fun x2=>(bif (Nat.ble 1 1&&Nat.ble (List.length x2+List.length x) lim) then (some (List.append x2 x)) else none)))
def mref02_Said (N:Nat) (x:Y3):Option (Y3):=nref02_Said x
theorem jz84 (N:Nat) (x:Y3):rise (Ez84) Tz84 6 N Tryz.f63 [.str] [Z5] [true] x=nref02_Said x:=by kernel_rfl
theorem lz84 (N:Nat) (x:Y3):rise (Ez84) Tz84 6 N Tryz.f63 [.str] [Z5] [true] x=mref02_Said N x:=(jz84 N x).trans rfl
def cref02_Said (x:Y3):Option (Y3):=mref02_Said big x
def Gz84:Fn2:=⟨[.str],[Z5],[true],fun x=>cref02_Said x⟩
theorem Lz84:Rises Tryz.prog 63 Gz84:=rises_of (E:=Ez84) ⟨tabOk,(fsCons2 Lz82 fsNil2),fun _ _ _=>rfl,mixed,inlNil,rcsNil,owsNil⟩ Tryz.func63 rfl (by decide) (by kernel_rfl) (by kernel_rfl) (by kernel_rfl) (by kernel_rfl) (fun x r _ h=>⟨Tz84,6,big,(lz84 big x).trans h⟩)
def Tz85:LT:={ live:=[(3,[0,3,4])],keep:=[] }
noncomputable def Ez85:Env2:={ tab:=tab,fs:=[(61,Gz83),(63,Gz84)],inl:=[] }
noncomputable def ez85_0 (v:Y5×Int×Y3):St:={ s:=[(0,(.val ⟨Z6,v.1⟩)),(3,(.row 0)),(4,(.val ⟨Z2,v.2.1⟩))],l:=[(0,.row Z9 v.2.2)],k:=[],b:=4096 }
def href09_fields_0 (self0:Y5×Int×Y3→Option (Y3)) (v:Y5×Int×Y3):Option (Y3):=
 (bif (decide (v.2.1 < (List.length v.1:Int))) then ((getI v.1 v.2.1).bind fun x2=>((cref02_Said x2.1).bind fun x3=>(bif (Nat.ble 1 1&&Nat.ble (List.length v.2.2+List.length x3) lim) then ((getI v.1 v.2.1).bind fun x4=>((cref09_number x4.2.1).bind fun x5=>(bif (Nat.ble 1 1&&Nat.ble (List.length (List.append v.2.2 x3)+List.length x5) lim) then (let x6:Y3:=(List.append (List.append v.2.2 x3) x5);(let x7:Int:=(IntKind.i64.wrap (v.2.1+(1:Int)));(self0 (v.1,x7,x6)))) else none))) else none))) else (some v.2.2))
def gref09_fields_0 (N:Nat) (self0:Y5×Int×Y3→Option (Y3)) (v:Y5×Int×Y3):Option (Y3):=href09_fields_0 self0 v
theorem kz85_0 (N:Nat) (s0:St→Option (Y3)) (v):(floc (Ez85) Tz85 6 N Tryz.f62 [Z5] [true] [] 0 nowhereR) s0 (ez85_0 v)=href09_fields_0 (fun v=>s0 (ez85_0 v)) v:=by kernel_rfl
theorem bz85_0 (N:Nat) (s0:St→Option (Y3)) (v):(floc (Ez85) Tz85 6 N Tryz.f62 [Z5] [true] [] 0 nowhereR) s0 (ez85_0 v)=gref09_fields_0 N (fun v=>s0 (ez85_0 v)) v:=kz85_0 N s0 v
def nref09_fields (loop0:Y5×Int×Y3→Option (Y3)) (x:Y5):Option (Y3):=
 ((cref09_number (List.length x:Int)).bind fun x1=>(loop0 (x,(0:Int),x1)))
def mref09_fields (N:Nat) (x:Y5):Option (Y3):=nref09_fields (iterV (gref09_fields_0 N) N) x
theorem jz85 (N:Nat) (x:Y5):rise (Ez85) Tz85 6 N Tryz.f62 [Z6] [Z5] [true] x=nref09_fields (fun v=>iterR (floc (Ez85) Tz85 6 N Tryz.f62 [Z5] [true] [] 0 nowhereR) N (ez85_0 v)) x:=by kernel_rfl
theorem lz85 (N:Nat) (x:Y5):rise (Ez85) Tz85 6 N Tryz.f62 [Z6] [Z5] [true] x=mref09_fields N x:=(jz85 N x).trans (by rw [funext (iterR_eq ez85_0 (bz85_0 N) N)];rfl)
def cref09_fields (x:Y5):Option (Y3):=mref09_fields big x
def Gz85:Fn2:=⟨[Z6],[Z5],[true],fun x=>cref09_fields x⟩
theorem Lz85:Rises Tryz.prog 62 Gz85:=rises_of (E:=Ez85) ⟨tabOk,(fsCons2 Lz83 (fsCons2 Lz84 fsNil2)),fun _ _ _=>rfl,mixed,inlNil,rcsNil,owsNil⟩ Tryz.func62 rfl (by decide) (by kernel_rfl) (by kernel_rfl) (by kernel_rfl) (by kernel_rfl) (fun x r _ h=>⟨Tz85,6,big,(lz85 big x).trans h⟩)
def Tz86:LT:={ live:=[],keep:=[] }
noncomputable def Ez86:Env2:={ tab:=tab,fs:=[],inl:=[] }
def nref02_Double (x:Int):Option (Int):=
 (bif (decide (x≥(0:Int))) then (let x1:Int:=(IntKind.u64.wrap ((IntKind.u64.wrap x) * (2:Int)));(some x1)) else (let x2:Int:=(IntKind.i64.wrap (x+(1:Int)));(let x3:Int:=(IntKind.i64.wrap (0 - x2));(let x4:Int:=(IntKind.u64.wrap ((IntKind.u64.wrap x3) * (2:Int)));(let x5:Int:=(IntKind.u64.wrap (x4+(1:Int)));(some x5))))))
def mref02_Double (N:Nat) (x:Int):Option (Int):=nref02_Double x
theorem jz86 (N:Nat) (x:Int):rise (Ez86) Tz86 6 N Tryz.f65 [Z2] [(.int .u64)] [false] x=nref02_Double x:=by kernel_rfl
theorem lz86 (N:Nat) (x:Int):rise (Ez86) Tz86 6 N Tryz.f65 [Z2] [(.int .u64)] [false] x=mref02_Double N x:=(jz86 N x).trans rfl
def cref02_Double (x:Int):Option (Int):=mref02_Double big x
def Gz86:Fn2:=⟨[Z2],[(.int .u64)],[false],fun x=>cref02_Double x⟩
theorem Lz86:Rises Tryz.prog 65 Gz86:=rises_of (E:=Ez86) ⟨tabOk,fsNil2,fun _ _ _=>rfl,mixed,inlNil,rcsNil,owsNil⟩ Tryz.func65 rfl (by decide) (by kernel_rfl) (by kernel_rfl) (by kernel_rfl) (by kernel_rfl) (fun x r _ h=>⟨Tz86,6,big,(lz86 big x).trans h⟩)
def Tz87:LT:={ live:=[],keep:=[] }
noncomputable def Ez87:Env2:={ tab:=tab,fs:=[],inl:=[] }
def nref06_Signed (x:Int):Option (Bool):=
 (bif (x==(110:Int)) then (some true) else (bif (x==(103:Int)) then (some true) else (some (x==(101:Int)))))
def mref06_Signed (N:Nat) (x:Int):Option (Bool):=nref06_Signed x
theorem jz87 (N:Nat) (x:Int):rise (Ez87) Tz87 6 N Tryz.f102 [Z9] [.bool] [false] x=nref06_Signed x:=by kernel_rfl
theorem lz87 (N:Nat) (x:Int):rise (Ez87) Tz87 6 N Tryz.f102 [Z9] [.bool] [false] x=mref06_Signed N x:=(jz87 N x).trans rfl
def cref06_Signed (x:Int):Option (Bool):=mref06_Signed big x
def Gz87:Fn2:=⟨[Z9],[.bool],[false],fun x=>cref06_Signed x⟩
theorem Lz87:Rises Tryz.prog 102 Gz87:=rises_of (E:=Ez87) ⟨tabOk,fsNil2,fun _ _ _=>rfl,mixed,inlNil,rcsNil,owsNil⟩ Tryz.func102 rfl (by decide) (by kernel_rfl) (by kernel_rfl) (by kernel_rfl) (by kernel_rfl) (fun x r _ h=>⟨Tz87,6,big,(lz87 big x).trans h⟩)
def Tz88:LT:={ live:=[(4,[3,4,5,6])],keep:=[] }
noncomputable def Ez88:Env2:={ tab:=tab,fs:=[(64,Gz82),(65,Gz86),(100,Gz75),(101,Gz76),(102,Gz87)],inl:=[] }
noncomputable def ez88_0 (v:Y3×Int×Y3×Y3):St:={ s:=[(3,(.row 0)),(4,(.val ⟨.str,v.1⟩)),(5,(.loc 1 [])),(6,(.val ⟨Z2,v.2.1⟩))],l:=[(0,.row Z9 v.2.2.1),(1,.var (.arr 3 Z2) (.val ⟨(.arr 3 Z2),v.2.2.2⟩))],k:=[],b:=4096 }
def href06_Coded_0 (self0:Y3×Int×Y3×Y3→Option (Y3)) (v:Y3×Int×Y3×Y3):Option (Y3):=
 (bif (decide (v.2.1 < (3:Int))) then ((getI v.1 v.2.1).bind fun x3=>(bif (x3==(45:Int)) then (let x4:Int:=(IntKind.i64.wrap (v.2.1+(1:Int)));(self0 (v.1,x4,v.2.2.1,v.2.2.2))) else ((getI v.1 v.2.1).bind fun x5=>((cref06_Signed x5).bind fun x6=>(bif x6 then (bif (decide (0≤v.2.1)&&decide (v.2.1 < (3:Int))) then ((nth v.2.2.2 (Int.toNat v.2.1)).bind fun x7=>((cref02_Double x7).bind fun x8=>((cref02_Minimal x8).bind fun x9=>(bif (Nat.ble 1 1&&Nat.ble (List.length v.2.2.1+List.length x9) lim) then (let x10:Int:=(IntKind.i64.wrap (v.2.1+(1:Int)));(self0 (v.1,x10,(List.append v.2.2.1 x9),v.2.2.2))) else none)))) else none) else (bif (decide (0≤v.2.1)&&decide (v.2.1 < (3:Int))) then ((nth v.2.2.2 (Int.toNat v.2.1)).bind fun x11=>((cref02_Minimal (IntKind.u64.wrap x11)).bind fun x12=>(bif (Nat.ble 1 1&&Nat.ble (List.length v.2.2.1+List.length x12) lim) then (let x13:Y3:=(List.append v.2.2.1 x12);(let x14:Int:=(IntKind.i64.wrap (v.2.1+(1:Int)));(self0 (v.1,x14,x13,v.2.2.2)))) else none))) else none)))))) else (some v.2.2.1))
def gref06_Coded_0 (N:Nat) (self0:Y3×Int×Y3×Y3→Option (Y3)) (v:Y3×Int×Y3×Y3):Option (Y3):=href06_Coded_0 self0 v
theorem kz88_0 (N:Nat) (s0:St→Option (Y3)) (v):(floc (Ez88) Tz88 6 N Tryz.f66 [Z5] [true] [] 0 nowhereR) s0 (ez88_0 v)=href06_Coded_0 (fun v=>s0 (ez88_0 v)) v:=by kernel_rfl
theorem bz88_0 (N:Nat) (s0:St→Option (Y3)) (v):(floc (Ez88) Tz88 6 N Tryz.f66 [Z5] [true] [] 0 nowhereR) s0 (ez88_0 v)=gref06_Coded_0 N (fun v=>s0 (ez88_0 v)) v:=kz88_0 N s0 v
def nref06_Coded (loop0:Y3×Int×Y3×Y3→Option (Y3)) (x:Y7):Option (Y3):=
 ((cref06_Shape x.1).bind fun x1=>((cref06_Operands x).bind fun x2=>(loop0 (x1,(0:Int),([x.1]:Y3),x2))))
def mref06_Coded (N:Nat) (x:Y7):Option (Y3):=nref06_Coded (iterV (gref06_Coded_0 N) N) x
theorem jz88 (N:Nat) (x:Y7):rise (Ez88) Tz88 6 N Tryz.f66 [Z4] [Z5] [true] x=nref06_Coded (fun v=>iterR (floc (Ez88) Tz88 6 N Tryz.f66 [Z5] [true] [] 0 nowhereR) N (ez88_0 v)) x:=by kernel_rfl
theorem lz88 (N:Nat) (x:Y7):rise (Ez88) Tz88 6 N Tryz.f66 [Z4] [Z5] [true] x=mref06_Coded N x:=(jz88 N x).trans (by rw [funext (iterR_eq ez88_0 (bz88_0 N) N)];rfl)
def cref06_Coded (x:Y7):Option (Y3):=mref06_Coded big x
def Gz88:Fn2:=⟨[Z4],[Z5],[true],fun x=>cref06_Coded x⟩
theorem Lz88:Rises Tryz.prog 66 Gz88:=rises_of (E:=Ez88) ⟨tabOk,(fsCons2 Lz82 (fsCons2 Lz86 (fsCons2 Lz75 (fsCons2 Lz76 (fsCons2 Lz87 fsNil2))))),fun _ _ _=>rfl,mixed,inlNil,rcsNil,owsNil⟩ Tryz.func66 rfl (by decide) (by kernel_rfl) (by kernel_rfl) (by kernel_rfl) (by kernel_rfl) (fun x r _ h=>⟨Tz88,6,big,(lz88 big x).trans h⟩)
def Tz89:LT:={ live:=[(4,[0,3,4,5])],keep:=[] }
noncomputable def Ez89:Env2:={ tab:=tab,fs:=[(64,Gz82)],inl:=[] }
noncomputable def ez89_0 (v:Y8×Int×Int×Y3):St:={ s:=[(0,(.val ⟨(.slice Z7),v.1⟩)),(3,(.row 0)),(4,(.val ⟨Z2,v.2.1⟩)),(5,(.val ⟨Z2,v.2.2.1⟩))],l:=[(0,.row Z9 v.2.2.2)],k:=[],b:=4096 }
def href08_Coded_0 (self0:Y8×Int×Int×Y3→Option (Y3)) (v:Y8×Int×Int×Y3):Option (Y3):=
 (bif (decide (v.2.2.1 < (List.length v.1:Int))) then ((getI v.1 v.2.2.1).bind fun x3=>(let x4:Int:=(IntKind.i64.wrap (x3.1 - v.2.1));((cref02_Minimal (IntKind.u64.wrap x4)).bind fun x5=>(bif (Nat.ble 1 1&&Nat.ble (List.length v.2.2.2+List.length x5) lim) then ((getI v.1 v.2.2.1).bind fun x6=>((cref02_Minimal x6.2.1).bind fun x7=>(bif (Nat.ble 1 1&&Nat.ble (List.length (List.append v.2.2.2 x5)+List.length x7) lim) then (let x8:Y3:=(List.append (List.append v.2.2.2 x5) x7);((getI v.1 v.2.2.1).bind fun x9=>(let x10:Int:=(IntKind.i64.wrap (v.2.2.1+(1:Int)));(self0 (v.1,x9.1,x10,x8))))) else none))) else none)))) else (some v.2.2.2))
def gref08_Coded_0 (N:Nat) (self0:Y8×Int×Int×Y3→Option (Y3)) (v:Y8×Int×Int×Y3):Option (Y3):=href08_Coded_0 self0 v
theorem kz89_0 (N:Nat) (s0:St→Option (Y3)) (v):(floc (Ez89) Tz89 6 N Tryz.f67 [Z5] [true] [] 0 nowhereR) s0 (ez89_0 v)=href08_Coded_0 (fun v=>s0 (ez89_0 v)) v:=by kernel_rfl
theorem bz89_0 (N:Nat) (s0:St→Option (Y3)) (v):(floc (Ez89) Tz89 6 N Tryz.f67 [Z5] [true] [] 0 nowhereR) s0 (ez89_0 v)=gref08_Coded_0 N (fun v=>s0 (ez89_0 v)) v:=kz89_0 N s0 v
def nref08_Coded (loop0:Y8×Int×Int×Y3→Option (Y3)) (x:Y8):Option (Y3):=
 (let x1:Int:=(IntKind.u64.wrap (List.length x:Int));((cref02_Minimal x1).bind fun x2=>(loop0 (x,(0:Int),(0:Int),x2))))
def mref08_Coded (N:Nat) (x:Y8):Option (Y3):=nref08_Coded (iterV (gref08_Coded_0 N) N) x
theorem jz89 (N:Nat) (x:Y8):rise (Ez89) Tz89 6 N Tryz.f67 [(.slice Z7)] [Z5] [true] x=nref08_Coded (fun v=>iterR (floc (Ez89) Tz89 6 N Tryz.f67 [Z5] [true] [] 0 nowhereR) N (ez89_0 v)) x:=by kernel_rfl
theorem lz89 (N:Nat) (x:Y8):rise (Ez89) Tz89 6 N Tryz.f67 [(.slice Z7)] [Z5] [true] x=mref08_Coded N x:=(jz89 N x).trans (by rw [funext (iterR_eq ez89_0 (bz89_0 N) N)];rfl)
def cref08_Coded (x:Y8):Option (Y3):=mref08_Coded big x
def Gz89:Fn2:=⟨[(.slice Z7)],[Z5],[true],fun x=>cref08_Coded x⟩
theorem Lz89:Rises Tryz.prog 67 Gz89:=rises_of (E:=Ez89) ⟨tabOk,(fsCons2 Lz82 fsNil2),fun _ _ _=>rfl,mixed,inlNil,rcsNil,owsNil⟩ Tryz.func67 rfl (by decide) (by kernel_rfl) (by kernel_rfl) (by kernel_rfl) (by kernel_rfl) (fun x r _ h=>⟨Tz89,6,big,(lz89 big x).trans h⟩)
def Tz90:LT:={ live:=[(3,[1,3,4]),(17,[1,3,6]),(22,[1,3,7]),(29,[1,3,7,8,9])],keep:=[] }
noncomputable def Ez90:Env2:={ tab:=tab,fs:=[(61,Gz83),(62,Gz85),(63,Gz84),(64,Gz82),(65,Gz86),(66,Gz88),(67,Gz89)],inl:=[] }
noncomputable def ez90_3 (v:Int×Int×Y0×Y3×Y1):St:={ s:=[(1,(.loc 0 [])),(3,(.row 1)),(7,(.val ⟨Z2,v.1⟩)),(8,(.loc 2 [])),(9,(.val ⟨Z2,v.2.1⟩))],l:=[(0,.var Z3 (.val ⟨Z3,v.2.2.1⟩)),(1,.row Z9 v.2.2.2.1),(2,.var Z0 (.val ⟨Z0,v.2.2.2.2⟩))],k:=[],b:=4096 }
noncomputable def ez90_2 (v:Y11):St:={ s:=[(1,(.loc 0 [])),(3,(.row 1)),(7,(.val ⟨Z2,v.1⟩))],l:=[(0,.var Z3 (.val ⟨Z3,v.2.1⟩)),(1,.row Z9 v.2.2)],k:=[],b:=4096 }
noncomputable def ez90_1 (v:Y11):St:={ s:=[(1,(.loc 0 [])),(3,(.row 1)),(6,(.val ⟨Z2,v.1⟩))],l:=[(0,.var Z3 (.val ⟨Z3,v.2.1⟩)),(1,.row Z9 v.2.2)],k:=[],b:=4096 }
noncomputable def ez90_0 (v:Y11):St:={ s:=[(1,(.loc 0 [])),(3,(.row 1)),(4,(.val ⟨Z2,v.1⟩))],l:=[(0,.var Z3 (.val ⟨Z3,v.2.1⟩)),(1,.row Z9 v.2.2)],k:=[],b:=4096 }
def href09_Coded_3 (self0:Y11→Option (Y3)) (self1:Y11→Option (Y3)) (self2:Y11→Option (Y3)) (self3:Int×Int×Y0×Y3×Y1→Option (Y3)) (v:Int×Int×Y0×Y3×Y1):Option (Y3):=
 (bif (decide (v.2.1 < (List.length v.2.2.2.2.2.2.2.2.1:Int))) then ((getI v.2.2.2.2.2.2.2.2.1 v.2.1).bind fun x36=>((cref06_Coded x36).bind fun x37=>(bif (Nat.ble 1 1&&Nat.ble (List.length v.2.2.2.1+List.length x37) lim) then (let x38:Y3:=(List.append v.2.2.2.1 x37);(let x39:Int:=(IntKind.i64.wrap (v.2.1+(1:Int)));(self3 (v.1,x39,v.2.2.1,x38,v.2.2.2.2)))) else none))) else ((cref08_Coded v.2.2.2.2.2.2.2.2.2.1).bind fun x40=>(bif (Nat.ble 1 1&&Nat.ble (List.length v.2.2.2.1+List.length x40) lim) then (let x41:Y3:=(List.append v.2.2.2.1 x40);((cref08_Coded v.2.2.2.2.2.2.2.2.2.2.1).bind fun x42=>(bif (Nat.ble 1 1&&Nat.ble (List.length x41+List.length x42) lim) then (let x43:Int:=(IntKind.i64.wrap (v.1+(1:Int)));(self2 (x43,v.2.2.1,(List.append x41 x42)))) else none))) else none)))
def gref09_Coded_3 (N:Nat) (self0:Y11→Option (Y3)) (self1:Y11→Option (Y3)) (self2:Y11→Option (Y3)) (self3:Int×Int×Y0×Y3×Y1→Option (Y3)) (v:Int×Int×Y0×Y3×Y1):Option (Y3):=href09_Coded_3 self0 self1 self2 self3 v
theorem kz90_3 (N:Nat) (s0:St→Option (Y3)) (s1:St→Option (Y3)) (s2:St→Option (Y3)) (s3:St→Option (Y3)) (v):(floc (Ez90) Tz90 6 N Tryz.f35 [Z5] [true] [] 3 (outerR s2 nowhereR)) s3 (ez90_3 v)=href09_Coded_3 (fun v=>s0 (ez90_0 v)) (fun v=>s1 (ez90_1 v)) (fun v=>s2 (ez90_2 v)) (fun v=>s3 (ez90_3 v)) v:=by kernel_rfl
theorem bz90_3 (N:Nat) (s0:St→Option (Y3)) (s1:St→Option (Y3)) (s2:St→Option (Y3)) (s3:St→Option (Y3)) (v):(floc (Ez90) Tz90 6 N Tryz.f35 [Z5] [true] [] 3 (outerR s2 nowhereR)) s3 (ez90_3 v)=gref09_Coded_3 N (fun v=>s0 (ez90_0 v)) (fun v=>s1 (ez90_1 v)) (fun v=>s2 (ez90_2 v)) (fun v=>s3 (ez90_3 v)) v:=kz90_3 N s0 s1 s2 s3 v
def href09_Coded_2 (loop3:Int×Int×Y0×Y3×Y1→Option (Y3)) (self0:Y11→Option (Y3)) (self1:Y11→Option (Y3)) (self2:Y11→Option (Y3)) (v:Y11):Option (Y3):=
 (bif (decide (v.1 < (List.length v.2.1.2.2.1:Int))) then ((getI v.2.1.2.2.1 v.1).bind fun x27=>((cref02_Said x27.1).bind fun x28=>(bif (Nat.ble 1 1&&Nat.ble (List.length v.2.2+List.length x28) lim) then ((cref09_number x27.2.1).bind fun x29=>(bif (Nat.ble 1 1&&Nat.ble (List.length (List.append v.2.2 x28)+List.length x29) lim) then (let x30:Y3:=(List.append (List.append v.2.2 x28) x29);((cref02_Double x27.2.2.1).bind fun x31=>((cref02_Minimal x31).bind fun x32=>(bif (Nat.ble 1 1&&Nat.ble (List.length x30+List.length x32) lim) then ((cref09_fields x27.2.2.2.1).bind fun x33=>(bif (Nat.ble 1 1&&Nat.ble (List.length (List.append x30 x32)+List.length x33) lim) then (let x34:Y3:=(List.append (List.append x30 x32) x33);((cref09_number (List.length x27.2.2.2.2.1:Int)).bind fun x35=>(bif (Nat.ble 1 1&&Nat.ble (List.length x34+List.length x35) lim) then (loop3 (v.1,(0:Int),v.2.1,(List.append x34 x35),x27)) else none))) else none)) else none)))) else none)) else none))) else (some v.2.2))
def gref09_Coded_2 (N:Nat) (self0:Y11→Option (Y3)) (self1:Y11→Option (Y3)) (self2:Y11→Option (Y3)) (v:Y11):Option (Y3):=href09_Coded_2 (iterV (gref09_Coded_3 N self0 self1 self2) N) self0 self1 self2 v
theorem kz90_2 (N:Nat) (s0:St→Option (Y3)) (s1:St→Option (Y3)) (s2:St→Option (Y3)) (v):(floc (Ez90) Tz90 6 N Tryz.f35 [Z5] [true] [] 2 nowhereR) s2 (ez90_2 v)=href09_Coded_2 (fun v=>iterR (floc (Ez90) Tz90 6 N Tryz.f35 [Z5] [true] [] 3 (outerR s2 nowhereR)) N (ez90_3 v)) (fun v=>s0 (ez90_0 v)) (fun v=>s1 (ez90_1 v)) (fun v=>s2 (ez90_2 v)) v:=by kernel_rfl
theorem bz90_2 (N:Nat) (s0:St→Option (Y3)) (s1:St→Option (Y3)) (s2:St→Option (Y3)) (v):(floc (Ez90) Tz90 6 N Tryz.f35 [Z5] [true] [] 2 nowhereR) s2 (ez90_2 v)=gref09_Coded_2 N (fun v=>s0 (ez90_0 v)) (fun v=>s1 (ez90_1 v)) (fun v=>s2 (ez90_2 v)) v:=(kz90_2 N s0 s1 s2 v).trans (by rw [funext (iterR_eq ez90_3 (bz90_3 N s0 s1 s2) N)];rfl)
def href09_Coded_1 (loop2:Y11→Option (Y3)) (self0:Y11→Option (Y3)) (self1:Y11→Option (Y3)) (v:Y11):Option (Y3):=
 (bif (decide (v.1 < (List.length v.2.1.2.1:Int))) then ((getI v.2.1.2.1 v.1).bind fun x23=>((cref02_Said x23).bind fun x24=>(bif (Nat.ble 1 1&&Nat.ble (List.length v.2.2+List.length x24) lim) then (let x25:Int:=(IntKind.i64.wrap (v.1+(1:Int)));(self1 (x25,v.2.1,(List.append v.2.2 x24)))) else none))) else ((cref09_number (List.length v.2.1.2.2.1:Int)).bind fun x26=>(bif (Nat.ble 1 1&&Nat.ble (List.length v.2.2+List.length x26) lim) then (loop2 ((0:Int),v.2.1,(List.append v.2.2 x26))) else none)))
def gref09_Coded_1 (N:Nat) (self0:Y11→Option (Y3)) (self1:Y11→Option (Y3)) (v:Y11):Option (Y3):=href09_Coded_1 (iterV (gref09_Coded_2 N self0 self1) N) self0 self1 v
theorem kz90_1 (N:Nat) (s0:St→Option (Y3)) (s1:St→Option (Y3)) (v):(floc (Ez90) Tz90 6 N Tryz.f35 [Z5] [true] [] 1 nowhereR) s1 (ez90_1 v)=href09_Coded_1 (fun v=>iterR (floc (Ez90) Tz90 6 N Tryz.f35 [Z5] [true] [] 2 nowhereR) N (ez90_2 v)) (fun v=>s0 (ez90_0 v)) (fun v=>s1 (ez90_1 v)) v:=by kernel_rfl
theorem bz90_1 (N:Nat) (s0:St→Option (Y3)) (s1:St→Option (Y3)) (v):(floc (Ez90) Tz90 6 N Tryz.f35 [Z5] [true] [] 1 nowhereR) s1 (ez90_1 v)=gref09_Coded_1 N (fun v=>s0 (ez90_0 v)) (fun v=>s1 (ez90_1 v)) v:=(kz90_1 N s0 s1 v).trans (by rw [funext (iterR_eq ez90_2 (bz90_2 N s0 s1) N)];rfl)
def href09_Coded_0 (loop1:Y11→Option (Y3)) (self0:Y11→Option (Y3)) (v:Y11):Option (Y3):=
 (bif (decide (v.1 < (List.length v.2.1.1:Int))) then ((getI v.2.1.1 v.1).bind fun x2=>(bif (Nat.ble 1 1&&Nat.ble (List.length v.2.2+List.length ([x2.1]:Y3)) lim) then (let x3:Y3:=(List.append v.2.2 ([x2.1]:Y3));(bif (x2.1==(4:Int)) then (bif (x2.1==(4:Int)) then ((cref09_number x2.2.1).bind fun x4=>(bif (Nat.ble 1 1&&Nat.ble (List.length x3+List.length x4) lim) then (let x5:Int:=(IntKind.i64.wrap (v.1+(1:Int)));(self0 (x5,v.2.1,(List.append x3 x4)))) else none)) else (bif (x2.1==(6:Int)) then ((cref09_number x2.2.1).bind fun x6=>(bif (Nat.ble 1 1&&Nat.ble (List.length x3+List.length x6) lim) then ((cref09_number x2.2.2.1).bind fun x7=>(bif (Nat.ble 1 1&&Nat.ble (List.length (List.append x3 x6)+List.length x7) lim) then (let x8:Y3:=(List.append (List.append x3 x6) x7);(let x9:Int:=(IntKind.i64.wrap (v.1+(1:Int)));(self0 (x9,v.2.1,x8)))) else none)) else none)) else (bif (x2.1==(5:Int)) then ((cref09_fields x2.2.2.2.1).bind fun x10=>(bif (Nat.ble 1 1&&Nat.ble (List.length x3+List.length x10) lim) then (let x11:Int:=(IntKind.i64.wrap (v.1+(1:Int)));(self0 (x11,v.2.1,(List.append x3 x10)))) else none)) else (let x12:Int:=(IntKind.i64.wrap (v.1+(1:Int)));(self0 (x12,v.2.1,x3)))))) else (bif (x2.1==(7:Int)) then ((cref09_number x2.2.1).bind fun x13=>(bif (Nat.ble 1 1&&Nat.ble (List.length x3+List.length x13) lim) then (let x14:Int:=(IntKind.i64.wrap (v.1+(1:Int)));(self0 (x14,v.2.1,(List.append x3 x13)))) else none)) else (bif (x2.1==(6:Int)) then ((cref09_number x2.2.1).bind fun x15=>(bif (Nat.ble 1 1&&Nat.ble (List.length x3+List.length x15) lim) then ((cref09_number x2.2.2.1).bind fun x16=>(bif (Nat.ble 1 1&&Nat.ble (List.length (List.append x3 x15)+List.length x16) lim) then (let x17:Y3:=(List.append (List.append x3 x15) x16);(let x18:Int:=(IntKind.i64.wrap (v.1+(1:Int)));(self0 (x18,v.2.1,x17)))) else none)) else none)) else (bif (x2.1==(5:Int)) then ((cref09_fields x2.2.2.2.1).bind fun x19=>(bif (Nat.ble 1 1&&Nat.ble (List.length x3+List.length x19) lim) then (let x20:Int:=(IntKind.i64.wrap (v.1+(1:Int)));(self0 (x20,v.2.1,(List.append x3 x19)))) else none)) else (let x21:Int:=(IntKind.i64.wrap (v.1+(1:Int)));(self0 (x21,v.2.1,x3)))))))) else none)) else ((cref09_number (List.length v.2.1.2.1:Int)).bind fun x22=>(bif (Nat.ble 1 1&&Nat.ble (List.length v.2.2+List.length x22) lim) then (loop1 ((0:Int),v.2.1,(List.append v.2.2 x22))) else none)))
def gref09_Coded_0 (N:Nat) (self0:Y11→Option (Y3)) (v:Y11):Option (Y3):=href09_Coded_0 (iterV (gref09_Coded_1 N self0) N) self0 v
theorem kz90_0 (N:Nat) (s0:St→Option (Y3)) (v):(floc (Ez90) Tz90 6 N Tryz.f35 [Z5] [true] [] 0 nowhereR) s0 (ez90_0 v)=href09_Coded_0 (fun v=>iterR (floc (Ez90) Tz90 6 N Tryz.f35 [Z5] [true] [] 1 nowhereR) N (ez90_1 v)) (fun v=>s0 (ez90_0 v)) v:=by kernel_rfl
theorem bz90_0 (N:Nat) (s0:St→Option (Y3)) (v):(floc (Ez90) Tz90 6 N Tryz.f35 [Z5] [true] [] 0 nowhereR) s0 (ez90_0 v)=gref09_Coded_0 N (fun v=>s0 (ez90_0 v)) v:=(kz90_0 N s0 v).trans (by rw [funext (iterR_eq ez90_1 (bz90_1 N s0) N)];rfl)
def nref09_Coded (loop0:Y11→Option (Y3)) (x:Y0):Option (Y3):=
 ((cref09_number (List.length x.1:Int)).bind fun x1=>(loop0 ((0:Int),x,x1)))
def mref09_Coded (N:Nat) (x:Y0):Option (Y3):=nref09_Coded (iterV (gref09_Coded_0 N) N) x
theorem jz90 (N:Nat) (x:Y0):rise (Ez90) Tz90 6 N Tryz.f35 [Z3] [Z5] [true] x=nref09_Coded (fun v=>iterR (floc (Ez90) Tz90 6 N Tryz.f35 [Z5] [true] [] 0 nowhereR) N (ez90_0 v)) x:=by kernel_rfl
theorem lz90 (N:Nat) (x:Y0):rise (Ez90) Tz90 6 N Tryz.f35 [Z3] [Z5] [true] x=mref09_Coded N x:=(jz90 N x).trans (by rw [funext (iterR_eq ez90_0 (bz90_0 N) N)];rfl)
def cref09_Coded (x:Y0):Option (Y3):=mref09_Coded big x
def Gz90:Fn2:=⟨[Z3],[Z5],[true],fun x=>cref09_Coded x⟩
theorem Lz90:Rises Tryz.prog 35 Gz90:=rises_of (E:=Ez90) ⟨tabOk,(fsCons2 Lz83 (fsCons2 Lz85 (fsCons2 Lz84 (fsCons2 Lz82 (fsCons2 Lz86 (fsCons2 Lz88 (fsCons2 Lz89 fsNil2))))))),fun _ _ _=>rfl,mixed,inlNil,rcsNil,owsNil⟩ Tryz.func35 rfl (by decide) (by kernel_rfl) (by kernel_rfl) (by kernel_rfl) (by kernel_rfl) (fun x r _ h=>⟨Tz90,6,big,(lz90 big x).trans h⟩)
def Tz91:LT:={ live:=[],keep:=[] }
noncomputable def Ez91:Env2:={ tab:=tab,fs:=[(35,Gz90),(38,Gz81)],inl:=[] }
def nref09_Check (x:Y0):Option (Int):=
 ((cref09_Fine x).bind fun x1=>(bif (!x1) then (some (8:Int)) else ((cref09_Coded x).bind fun x2=>(bif (decide ((List.length x2:Int) > (20000:Int))) then (some (4:Int)) else (some (0:Int))))))
def mref09_Check (N:Nat) (x:Y0):Option (Int):=nref09_Check x
theorem jz91 (N:Nat) (x:Y0):rise (Ez91) Tz91 6 N Tryz.f24 [Z3] [Z2] [false] x=nref09_Check x:=by kernel_rfl
theorem lz91 (N:Nat) (x:Y0):rise (Ez91) Tz91 6 N Tryz.f24 [Z3] [Z2] [false] x=mref09_Check N x:=(jz91 N x).trans rfl
def cref09_Check (x:Y0):Option (Int):=mref09_Check big x
def Gz91:Fn2:=⟨[Z3],[Z2],[false],fun x=>cref09_Check x⟩
theorem Lz91:Rises Tryz.prog 24 Gz91:=rises_of (E:=Ez91) ⟨tabOk,(fsCons2 Lz90 (fsCons2 Lz81 fsNil2)),fun _ _ _=>rfl,mixed,inlNil,rcsNil,owsNil⟩ Tryz.func24 rfl (by decide) (by kernel_rfl) (by kernel_rfl) (by kernel_rfl) (by kernel_rfl) (fun x r _ h=>⟨Tz91,6,big,(lz91 big x).trans h⟩)
def Tz92:LT:={ live:=[],keep:=[] }
noncomputable def Ez92:Env2:={ tab:=tab,fs:=[(24,Gz91),(35,Gz90)],inl:=[] }
def nref09_Encode (x:Y0):Option (Y3×Int):=
 ((cref09_Check x).bind fun x1=>(bif (x1 != (0:Int)) then (some (([]:List Int),x1)) else ((cref09_Coded x).bind fun x2=>(some (x2,(0:Int))))))
def mref09_Encode (N:Nat) (x:Y0):Option (Y3×Int):=nref09_Encode x
theorem jz92 (N:Nat) (x:Y0):rise (Ez92) Tz92 6 N Tryz.f21 [Z3] [Z5,Z2] [true,false] x=nref09_Encode x:=by kernel_rfl
theorem lz92 (N:Nat) (x:Y0):rise (Ez92) Tz92 6 N Tryz.f21 [Z3] [Z5,Z2] [true,false] x=mref09_Encode N x:=(jz92 N x).trans rfl
def cref09_Encode (x:Y0):Option (Y3×Int):=mref09_Encode big x
def Gz92:Fn2:=⟨[Z3],[Z5,Z2],[true,false],fun x=>cref09_Encode x⟩
theorem Lz92:Rises Tryz.prog 21 Gz92:=rises_of (E:=Ez92) ⟨tabOk,(fsCons2 Lz91 (fsCons2 Lz90 fsNil2)),fun _ _ _=>rfl,mixed,inlNil,rcsNil,owsNil⟩ Tryz.func21 rfl (by decide) (by kernel_rfl) (by kernel_rfl) (by kernel_rfl) (by kernel_rfl) (fun x r _ h=>⟨Tz92,6,big,(lz92 big x).trans h⟩)
def Tz95:LT:={ live:=[],keep:=[] }
noncomputable def Ez95:Env2:={ tab:=tab,fs:=[],inl:=[] }
def nref09_Place (x:Int×Int):Option (Int):=
 (let x1:Int:=(IntKind.i64.wrap (x.1+(1:Int)));(let x2:Int:=(IntKind.i64.wrap ((256:Int) * x1));(let x3:Int:=(IntKind.i64.wrap (x2+x.2));(some (IntKind.u64.wrap x3)))))
def mref09_Place (N:Nat) (x:Int×Int):Option (Int):=nref09_Place x
theorem jz95 (N:Nat) (x:Int×Int):rise (Ez95) Tz95 6 N Tryz.f36 [Z2,Z2] [(.int .u64)] [false] x=nref09_Place x:=by kernel_rfl
theorem lz95 (N:Nat) (x:Int×Int):rise (Ez95) Tz95 6 N Tryz.f36 [Z2,Z2] [(.int .u64)] [false] x=mref09_Place N x:=(jz95 N x).trans rfl
def cref09_Place (x:Int×Int):Option (Int):=mref09_Place big x
def Gz95:Fn2:=⟨[Z2,Z2],[(.int .u64)],[false],fun x=>cref09_Place x⟩
theorem Lz95:Rises Tryz.prog 36 Gz95:=rises_of (E:=Ez95) ⟨tabOk,fsNil2,fun _ _ _=>rfl,mixed,inlNil,rcsNil,owsNil⟩ Tryz.func36 rfl (by decide) (by kernel_rfl) (by kernel_rfl) (by kernel_rfl) (by kernel_rfl) (fun x r _ h=>⟨Tz95,6,big,(lz95 big x).trans h⟩)
def Tz96:LT:={ live:=[],keep:=[] }
noncomputable def Ez96:Env2:={ tab:=tab,fs:=[(24,Gz91),(36,Gz95)],inl:=[] }
def nref09_Address (x:Y0×Int×Int):Option (Int×Int):=
 ((cref09_Check x.1).bind fun x1=>(bif (x1 != (0:Int)) then (some ((0:Int),x1)) else (bif (decide (x.2.1 < (0:Int))) then (some ((0:Int),(2:Int))) else (bif (decide (x.2.1≥(List.length x.1.2.2.1:Int))) then (some ((0:Int),(2:Int))) else (bif (decide (x.2.2 < (0:Int))) then (some ((0:Int),(2:Int))) else ((getI x.1.2.2.1 x.2.1).bind fun x2=>(bif (decide (x.2.2≥(List.length x2.2.2.2.2.1:Int))) then (some ((0:Int),(2:Int))) else ((cref09_Place (x.2.1,x.2.2)).bind fun x3=>(some (x3,(0:Int)))))))))))
def mref09_Address (N:Nat) (x:Y0×Int×Int):Option (Int×Int):=nref09_Address x
theorem jz96 (N:Nat) (x:Y0×Int×Int):rise (Ez96) Tz96 6 N Tryz.f22 [Z3,Z2,Z2] [(.int .u64),Z2] [false,false] x=nref09_Address x:=by kernel_rfl
theorem lz96 (N:Nat) (x:Y0×Int×Int):rise (Ez96) Tz96 6 N Tryz.f22 [Z3,Z2,Z2] [(.int .u64),Z2] [false,false] x=mref09_Address N x:=(jz96 N x).trans rfl
def cref09_Address (x:Y0×Int×Int):Option (Int×Int):=mref09_Address big x
def Gz96:Fn2:=⟨[Z3,Z2,Z2],[(.int .u64),Z2],[false,false],fun x=>cref09_Address x⟩
theorem Lz96:Rises Tryz.prog 22 Gz96:=rises_of (E:=Ez96) ⟨tabOk,(fsCons2 Lz91 (fsCons2 Lz95 fsNil2)),fun _ _ _=>rfl,mixed,inlNil,rcsNil,owsNil⟩ Tryz.func22 rfl (by decide) (by kernel_rfl) (by kernel_rfl) (by kernel_rfl) (by kernel_rfl) (fun x r _ h=>⟨Tz96,6,big,(lz96 big x).trans h⟩)
def Tz98:LT:={ live:=[],keep:=[] }
noncomputable def Ez98:Env2:={ tab:=tab,fs:=[],inl:=[] }
def nref09_Where (x:Y0×Int):Option (Int×Int×Bool):=
 (bif (decide (x.2 < (256:Int))) then (some ((0:Int),(0:Int),false)) else (let x1:Int:=(IntKind.i64.wrap ((List.length x.1.2.2.1:Int)+(1:Int)));(let x2:Int:=(IntKind.i64.wrap ((256:Int) * x1));(bif (decide (x.2≥(IntKind.u64.wrap x2))) then (some ((0:Int),(0:Int),false)) else (let x3:Int:=(IntKind.u64.wrap (x.2.tdiv (256:Int)));(let x4:Int:=(IntKind.i64.wrap ((IntKind.i64.wrap x3) - (1:Int)));(let x5:Int:=(IntKind.i64.wrap (x.2.tmod (256:Int)));((getI x.1.2.2.1 x4).bind fun x6=>(bif (decide (x5≥(List.length x6.2.2.2.2.1:Int))) then (some ((0:Int),(0:Int),false)) else (some (x4,x5,true)))))))))))
def mref09_Where (N:Nat) (x:Y0×Int):Option (Int×Int×Bool):=nref09_Where x
theorem jz98 (N:Nat) (x:Y0×Int):rise (Ez98) Tz98 6 N Tryz.f37 [Z3,(.int .u64)] [Z2,Z2,.bool] [false,false,false] x=nref09_Where x:=by kernel_rfl
theorem lz98 (N:Nat) (x:Y0×Int):rise (Ez98) Tz98 6 N Tryz.f37 [Z3,(.int .u64)] [Z2,Z2,.bool] [false,false,false] x=mref09_Where N x:=(jz98 N x).trans rfl
def cref09_Where (x:Y0×Int):Option (Int×Int×Bool):=mref09_Where big x
def Gz98:Fn2:=⟨[Z3,(.int .u64)],[Z2,Z2,.bool],[false,false,false],fun x=>cref09_Where x⟩
theorem Lz98:Rises Tryz.prog 37 Gz98:=rises_of (E:=Ez98) ⟨tabOk,fsNil2,fun _ _ _=>rfl,mixed,inlNil,rcsNil,owsNil⟩ Tryz.func37 rfl (by decide) (by kernel_rfl) (by kernel_rfl) (by kernel_rfl) (by kernel_rfl) (fun x r _ h=>⟨Tz98,6,big,(lz98 big x).trans h⟩)
def Tz99:LT:={ live:=[],keep:=[] }
noncomputable def Ez99:Env2:={ tab:=tab,fs:=[(24,Gz91),(37,Gz98)],inl:=[] }
def nref09_Find (x:Y0×Int):Option (Int×Int×Int):=
 ((cref09_Check x.1).bind fun x1=>(bif (x1 != (0:Int)) then (some ((0:Int),(0:Int),x1)) else ((cref09_Where (x.1,x.2)).bind fun x2=>(bif (!x2.2.2) then (some ((0:Int),(0:Int),(6:Int))) else (some (x2.1,x2.2.1,(0:Int)))))))
def mref09_Find (N:Nat) (x:Y0×Int):Option (Int×Int×Int):=nref09_Find x
theorem jz99 (N:Nat) (x:Y0×Int):rise (Ez99) Tz99 6 N Tryz.f23 [Z3,(.int .u64)] [Z2,Z2,Z2] [false,false,false] x=nref09_Find x:=by kernel_rfl
theorem lz99 (N:Nat) (x:Y0×Int):rise (Ez99) Tz99 6 N Tryz.f23 [Z3,(.int .u64)] [Z2,Z2,Z2] [false,false,false] x=mref09_Find N x:=(jz99 N x).trans rfl
def cref09_Find (x:Y0×Int):Option (Int×Int×Int):=mref09_Find big x
def Gz99:Fn2:=⟨[Z3,(.int .u64)],[Z2,Z2,Z2],[false,false,false],fun x=>cref09_Find x⟩
theorem Lz99:Rises Tryz.prog 23 Gz99:=rises_of (E:=Ez99) ⟨tabOk,(fsCons2 Lz91 (fsCons2 Lz98 fsNil2)),fun _ _ _=>rfl,mixed,inlNil,rcsNil,owsNil⟩ Tryz.func23 rfl (by decide) (by kernel_rfl) (by kernel_rfl) (by kernel_rfl) (by kernel_rfl) (fun x r _ h=>⟨Tz99,6,big,(lz99 big x).trans h⟩)
def Tz100:LT:={ live:=[(4,[0,1,5])],keep:=[] }
noncomputable def Ez100:Env2:={ tab:=tab,fs:=[],inl:=[] }
noncomputable def ez100_0 (v:Y5×Y5×Int):St:={ s:=[(0,(.val ⟨Z6,v.1⟩)),(1,(.val ⟨Z6,v.2.1⟩)),(5,(.val ⟨Z2,v.2.2⟩))],l:=[],k:=[],b:=4096 }
def href04_SameFields_0 (self0:Y5×Y5×Int→Option (Bool)) (v:Y5×Y5×Int):Option (Bool):=
 (bif (decide (v.2.2 < (List.length v.1:Int))) then ((getI v.1 v.2.2).bind fun x1=>((getI v.2.1 v.2.2).bind fun x2=>(bif (!(eqD (.pair .str (.pair Z2 .unit)) x1 x2)) then (some false) else (let x3:Int:=(IntKind.i64.wrap (v.2.2+(1:Int)));(self0 (v.1,v.2.1,x3)))))) else (some true))
def gref04_SameFields_0 (N:Nat) (self0:Y5×Y5×Int→Option (Bool)) (v:Y5×Y5×Int):Option (Bool):=href04_SameFields_0 self0 v
theorem kz100_0 (N:Nat) (s0:St→Option (Bool)) (v):(floc (Ez100) Tz100 6 N Tryz.f52 [.bool] [false] [] 0 nowhereR) s0 (ez100_0 v)=href04_SameFields_0 (fun v=>s0 (ez100_0 v)) v:=by kernel_rfl
theorem bz100_0 (N:Nat) (s0:St→Option (Bool)) (v):(floc (Ez100) Tz100 6 N Tryz.f52 [.bool] [false] [] 0 nowhereR) s0 (ez100_0 v)=gref04_SameFields_0 N (fun v=>s0 (ez100_0 v)) v:=kz100_0 N s0 v
def nref04_SameFields (loop0:Y5×Y5×Int→Option (Bool)) (x:Y5×Y5):Option (Bool):=
 (bif ((List.length x.1:Int) != (List.length x.2:Int)) then (some false) else (loop0 (x.1,x.2,(0:Int))))
def mref04_SameFields (N:Nat) (x:Y5×Y5):Option (Bool):=nref04_SameFields (iterV (gref04_SameFields_0 N) N) x
theorem jz100 (N:Nat) (x:Y5×Y5):rise (Ez100) Tz100 6 N Tryz.f52 [Z6,Z6] [.bool] [false] x=nref04_SameFields (fun v=>iterR (floc (Ez100) Tz100 6 N Tryz.f52 [.bool] [false] [] 0 nowhereR) N (ez100_0 v)) x:=by kernel_rfl
theorem lz100 (N:Nat) (x:Y5×Y5):rise (Ez100) Tz100 6 N Tryz.f52 [Z6,Z6] [.bool] [false] x=mref04_SameFields N x:=(jz100 N x).trans (by rw [funext (iterR_eq ez100_0 (bz100_0 N) N)];rfl)
def cref04_SameFields (x:Y5×Y5):Option (Bool):=mref04_SameFields big x
def Gz100:Fn2:=⟨[Z6,Z6],[.bool],[false],fun x=>cref04_SameFields x⟩
theorem Lz100:Rises Tryz.prog 52 Gz100:=rises_of (E:=Ez100) ⟨tabOk,fsNil2,fun _ _ _=>rfl,mixed,inlNil,rcsNil,owsNil⟩ Tryz.func52 rfl (by decide) (by kernel_rfl) (by kernel_rfl) (by kernel_rfl) (by kernel_rfl) (fun x r _ h=>⟨Tz100,6,big,(lz100 big x).trans h⟩)
def Tz101:LT:={ live:=[(4,[0,1,5])],keep:=[] }
noncomputable def Ez101:Env2:={ tab:=tab,fs:=[(52,Gz100)],inl:=[] }
noncomputable def ez101_0 (v:Y6×Y6×Int):St:={ s:=[(0,(.val ⟨Z11,v.1⟩)),(1,(.val ⟨Z11,v.2.1⟩)),(5,(.val ⟨Z2,v.2.2⟩))],l:=[],k:=[],b:=4096 }
def href04_SameTable_0 (self0:Y6×Y6×Int→Option (Bool)) (v:Y6×Y6×Int):Option (Bool):=
 (bif (decide (v.2.2 < (List.length v.1:Int))) then ((getI v.1 v.2.2).bind fun x1=>((getI v.2.1 v.2.2).bind fun x2=>(bif (x1.1 != x2.1) then (some false) else ((getI v.1 v.2.2).bind fun x3=>((getI v.2.1 v.2.2).bind fun x4=>(bif (x3.2.1 != x4.2.1) then (some false) else ((getI v.1 v.2.2).bind fun x5=>((getI v.2.1 v.2.2).bind fun x6=>(bif (x5.2.2.1 != x6.2.2.1) then (some false) else ((getI v.1 v.2.2).bind fun x7=>((getI v.2.1 v.2.2).bind fun x8=>((cref04_SameFields (x7.2.2.2.1,x8.2.2.2.1)).bind fun x9=>(bif (!x9) then (some false) else (let x10:Int:=(IntKind.i64.wrap (v.2.2+(1:Int)));(self0 (v.1,v.2.1,x10)))))))))))))))) else (some true))
def gref04_SameTable_0 (N:Nat) (self0:Y6×Y6×Int→Option (Bool)) (v:Y6×Y6×Int):Option (Bool):=href04_SameTable_0 self0 v
theorem kz101_0 (N:Nat) (s0:St→Option (Bool)) (v):(floc (Ez101) Tz101 6 N Tryz.f30 [.bool] [false] [] 0 nowhereR) s0 (ez101_0 v)=href04_SameTable_0 (fun v=>s0 (ez101_0 v)) v:=by kernel_rfl
theorem bz101_0 (N:Nat) (s0:St→Option (Bool)) (v):(floc (Ez101) Tz101 6 N Tryz.f30 [.bool] [false] [] 0 nowhereR) s0 (ez101_0 v)=gref04_SameTable_0 N (fun v=>s0 (ez101_0 v)) v:=kz101_0 N s0 v
def nref04_SameTable (loop0:Y6×Y6×Int→Option (Bool)) (x:Y6×Y6):Option (Bool):=
 (bif ((List.length x.1:Int) != (List.length x.2:Int)) then (some false) else (loop0 (x.1,x.2,(0:Int))))
def mref04_SameTable (N:Nat) (x:Y6×Y6):Option (Bool):=nref04_SameTable (iterV (gref04_SameTable_0 N) N) x
theorem jz101 (N:Nat) (x:Y6×Y6):rise (Ez101) Tz101 6 N Tryz.f30 [Z11,Z11] [.bool] [false] x=nref04_SameTable (fun v=>iterR (floc (Ez101) Tz101 6 N Tryz.f30 [.bool] [false] [] 0 nowhereR) N (ez101_0 v)) x:=by kernel_rfl
theorem lz101 (N:Nat) (x:Y6×Y6):rise (Ez101) Tz101 6 N Tryz.f30 [Z11,Z11] [.bool] [false] x=mref04_SameTable N x:=(jz101 N x).trans (by rw [funext (iterR_eq ez101_0 (bz101_0 N) N)];rfl)
def cref04_SameTable (x:Y6×Y6):Option (Bool):=mref04_SameTable big x
def Gz101:Fn2:=⟨[Z11,Z11],[.bool],[false],fun x=>cref04_SameTable x⟩
theorem Lz101:Rises Tryz.prog 30 Gz101:=rises_of (E:=Ez101) ⟨tabOk,(fsCons2 Lz100 fsNil2),fun _ _ _=>rfl,mixed,inlNil,rcsNil,owsNil⟩ Tryz.func30 rfl (by decide) (by kernel_rfl) (by kernel_rfl) (by kernel_rfl) (by kernel_rfl) (fun x r _ h=>⟨Tz101,6,big,(lz101 big x).trans h⟩)
def Tz102:LT:={ live:=[(4,[0,1,5])],keep:=[] }
noncomputable def Ez102:Env2:={ tab:=tab,fs:=[],inl:=[] }
noncomputable def ez102_0 (v:(List Y7)×(List Y7)×Int):St:={ s:=[(0,(.val ⟨(.slice Z4),v.1⟩)),(1,(.val ⟨(.slice Z4),v.2.1⟩)),(5,(.val ⟨Z2,v.2.2⟩))],l:=[],k:=[],b:=4096 }
def href07_Same_0 (self0:(List Y7)×(List Y7)×Int→Option (Bool)) (v:(List Y7)×(List Y7)×Int):Option (Bool):=
 (bif (decide (v.2.2 < (List.length v.1:Int))) then ((getI v.1 v.2.2).bind fun x1=>((getI v.2.1 v.2.2).bind fun x2=>(bif (!(eqD Z4 x1 x2)) then (some false) else (let x3:Int:=(IntKind.i64.wrap (v.2.2+(1:Int)));(self0 (v.1,v.2.1,x3)))))) else (some true))
def gref07_Same_0 (N:Nat) (self0:(List Y7)×(List Y7)×Int→Option (Bool)) (v:(List Y7)×(List Y7)×Int):Option (Bool):=href07_Same_0 self0 v
theorem kz102_0 (N:Nat) (s0:St→Option (Bool)) (v):(floc (Ez102) Tz102 6 N Tryz.f53 [.bool] [false] [] 0 nowhereR) s0 (ez102_0 v)=href07_Same_0 (fun v=>s0 (ez102_0 v)) v:=by kernel_rfl
theorem bz102_0 (N:Nat) (s0:St→Option (Bool)) (v):(floc (Ez102) Tz102 6 N Tryz.f53 [.bool] [false] [] 0 nowhereR) s0 (ez102_0 v)=gref07_Same_0 N (fun v=>s0 (ez102_0 v)) v:=kz102_0 N s0 v
def nref07_Same (loop0:(List Y7)×(List Y7)×Int→Option (Bool)) (x:(List Y7)×(List Y7)):Option (Bool):=
 (bif ((List.length x.1:Int) != (List.length x.2:Int)) then (some false) else (loop0 (x.1,x.2,(0:Int))))
def mref07_Same (N:Nat) (x:(List Y7)×(List Y7)):Option (Bool):=nref07_Same (iterV (gref07_Same_0 N) N) x
theorem jz102 (N:Nat) (x:(List Y7)×(List Y7)):rise (Ez102) Tz102 6 N Tryz.f53 [(.slice Z4),(.slice Z4)] [.bool] [false] x=nref07_Same (fun v=>iterR (floc (Ez102) Tz102 6 N Tryz.f53 [.bool] [false] [] 0 nowhereR) N (ez102_0 v)) x:=by kernel_rfl
theorem lz102 (N:Nat) (x:(List Y7)×(List Y7)):rise (Ez102) Tz102 6 N Tryz.f53 [(.slice Z4),(.slice Z4)] [.bool] [false] x=mref07_Same N x:=(jz102 N x).trans (by rw [funext (iterR_eq ez102_0 (bz102_0 N) N)];rfl)
def cref07_Same (x:(List Y7)×(List Y7)):Option (Bool):=mref07_Same big x
def Gz102:Fn2:=⟨[(.slice Z4),(.slice Z4)],[.bool],[false],fun x=>cref07_Same x⟩
theorem Lz102:Rises Tryz.prog 53 Gz102:=rises_of (E:=Ez102) ⟨tabOk,fsNil2,fun _ _ _=>rfl,mixed,inlNil,rcsNil,owsNil⟩ Tryz.func53 rfl (by decide) (by kernel_rfl) (by kernel_rfl) (by kernel_rfl) (by kernel_rfl) (fun x r _ h=>⟨Tz102,6,big,(lz102 big x).trans h⟩)
def Tz103:LT:={ live:=[(4,[0,1,5])],keep:=[] }
noncomputable def Ez103:Env2:={ tab:=tab,fs:=[],inl:=[] }
noncomputable def ez103_0 (v:Y8×Y8×Int):St:={ s:=[(0,(.val ⟨(.slice Z7),v.1⟩)),(1,(.val ⟨(.slice Z7),v.2.1⟩)),(5,(.val ⟨Z2,v.2.2⟩))],l:=[],k:=[],b:=4096 }
def href08_Same_0 (self0:Y8×Y8×Int→Option (Bool)) (v:Y8×Y8×Int):Option (Bool):=
 (bif (decide (v.2.2 < (List.length v.1:Int))) then ((getI v.1 v.2.2).bind fun x1=>((getI v.2.1 v.2.2).bind fun x2=>(bif (!(eqD Z7 x1 x2)) then (some false) else (let x3:Int:=(IntKind.i64.wrap (v.2.2+(1:Int)));(self0 (v.1,v.2.1,x3)))))) else (some true))
def gref08_Same_0 (N:Nat) (self0:Y8×Y8×Int→Option (Bool)) (v:Y8×Y8×Int):Option (Bool):=href08_Same_0 self0 v
theorem kz103_0 (N:Nat) (s0:St→Option (Bool)) (v):(floc (Ez103) Tz103 6 N Tryz.f54 [.bool] [false] [] 0 nowhereR) s0 (ez103_0 v)=href08_Same_0 (fun v=>s0 (ez103_0 v)) v:=by kernel_rfl
theorem bz103_0 (N:Nat) (s0:St→Option (Bool)) (v):(floc (Ez103) Tz103 6 N Tryz.f54 [.bool] [false] [] 0 nowhereR) s0 (ez103_0 v)=gref08_Same_0 N (fun v=>s0 (ez103_0 v)) v:=kz103_0 N s0 v
def nref08_Same (loop0:Y8×Y8×Int→Option (Bool)) (x:Y8×Y8):Option (Bool):=
 (bif ((List.length x.1:Int) != (List.length x.2:Int)) then (some false) else (loop0 (x.1,x.2,(0:Int))))
def mref08_Same (N:Nat) (x:Y8×Y8):Option (Bool):=nref08_Same (iterV (gref08_Same_0 N) N) x
theorem jz103 (N:Nat) (x:Y8×Y8):rise (Ez103) Tz103 6 N Tryz.f54 [(.slice Z7),(.slice Z7)] [.bool] [false] x=nref08_Same (fun v=>iterR (floc (Ez103) Tz103 6 N Tryz.f54 [.bool] [false] [] 0 nowhereR) N (ez103_0 v)) x:=by kernel_rfl
theorem lz103 (N:Nat) (x:Y8×Y8):rise (Ez103) Tz103 6 N Tryz.f54 [(.slice Z7),(.slice Z7)] [.bool] [false] x=mref08_Same N x:=(jz103 N x).trans (by rw [funext (iterR_eq ez103_0 (bz103_0 N) N)];rfl)
def cref08_Same (x:Y8×Y8):Option (Bool):=mref08_Same big x
def Gz103:Fn2:=⟨[(.slice Z7),(.slice Z7)],[.bool],[false],fun x=>cref08_Same x⟩
theorem Lz103:Rises Tryz.prog 54 Gz103:=rises_of (E:=Ez103) ⟨tabOk,fsNil2,fun _ _ _=>rfl,mixed,inlNil,rcsNil,owsNil⟩ Tryz.func54 rfl (by decide) (by kernel_rfl) (by kernel_rfl) (by kernel_rfl) (by kernel_rfl) (fun x r _ h=>⟨Tz103,6,big,(lz103 big x).trans h⟩)
def Tz104:LT:={ live:=[],keep:=[] }
noncomputable def Ez104:Env2:={ tab:=tab,fs:=[(52,Gz100),(53,Gz102),(54,Gz103)],inl:=[] }
def nref09_SameFunc (x:Y1×Y1):Option (Bool):=
 (bif (eqD .str x.1.1 x.2.1) then (bif (x.1.2.1==x.2.2.1) then (bif (x.1.2.2.1==x.2.2.2.1) then ((cref04_SameFields (x.1.2.2.2.1,x.2.2.2.2.1)).bind fun x1=>(bif x1 then ((cref07_Same (x.1.2.2.2.2.1,x.2.2.2.2.2.1)).bind fun x2=>(bif x2 then ((cref08_Same (x.1.2.2.2.2.2.1,x.2.2.2.2.2.2.1)).bind fun x3=>(bif x3 then ((cref08_Same (x.1.2.2.2.2.2.2.1,x.2.2.2.2.2.2.2.1)).bind fun x4=>(some x4)) else (some false))) else (some false))) else (some false))) else (some false)) else (some false)) else (some false))
def mref09_SameFunc (N:Nat) (x:Y1×Y1):Option (Bool):=nref09_SameFunc x
theorem jz104 (N:Nat) (x:Y1×Y1):rise (Ez104) Tz104 6 N Tryz.f31 [Z0,Z0] [.bool] [false] x=nref09_SameFunc x:=by kernel_rfl
theorem lz104 (N:Nat) (x:Y1×Y1):rise (Ez104) Tz104 6 N Tryz.f31 [Z0,Z0] [.bool] [false] x=mref09_SameFunc N x:=(jz104 N x).trans rfl
def cref09_SameFunc (x:Y1×Y1):Option (Bool):=mref09_SameFunc big x
def Gz104:Fn2:=⟨[Z0,Z0],[.bool],[false],fun x=>cref09_SameFunc x⟩
theorem Lz104:Rises Tryz.prog 31 Gz104:=rises_of (E:=Ez104) ⟨tabOk,(fsCons2 Lz100 (fsCons2 Lz102 (fsCons2 Lz103 fsNil2))),fun _ _ _=>rfl,mixed,inlNil,rcsNil,owsNil⟩ Tryz.func31 rfl (by decide) (by kernel_rfl) (by kernel_rfl) (by kernel_rfl) (by kernel_rfl) (fun x r _ h=>⟨Tz104,6,big,(lz104 big x).trans h⟩)
def Tz105:LT:={ live:=[(4,[2,3,5]),(9,[2,3,6])],keep:=[] }
noncomputable def Ez105:Env2:={ tab:=tab,fs:=[(30,Gz101),(31,Gz104)],inl:=[] }
noncomputable def ez105_1 (v:Int×Y0×Y0):St:={ s:=[(2,(.loc 0 [])),(3,(.loc 1 [])),(6,(.val ⟨Z2,v.1⟩))],l:=[(0,.var Z3 (.val ⟨Z3,v.2.1⟩)),(1,.var Z3 (.val ⟨Z3,v.2.2⟩))],k:=[],b:=4096 }
noncomputable def ez105_0 (v:Int×Y0×Y0):St:={ s:=[(2,(.loc 0 [])),(3,(.loc 1 [])),(5,(.val ⟨Z2,v.1⟩))],l:=[(0,.var Z3 (.val ⟨Z3,v.2.1⟩)),(1,.var Z3 (.val ⟨Z3,v.2.2⟩))],k:=[],b:=4096 }
def href09_Same_1 (self0:Int×Y0×Y0→Option (Bool)) (self1:Int×Y0×Y0→Option (Bool)) (v:Int×Y0×Y0):Option (Bool):=
 (bif (decide (v.1 < (List.length v.2.1.2.2.1:Int))) then ((getI v.2.1.2.2.1 v.1).bind fun x5=>((getI v.2.2.2.2.1 v.1).bind fun x6=>((cref09_SameFunc (x5,x6)).bind fun x7=>(bif (!x7) then (some false) else (let x8:Int:=(IntKind.i64.wrap (v.1+(1:Int)));(self1 (x8,v.2.1,v.2.2))))))) else (some true))
def gref09_Same_1 (N:Nat) (self0:Int×Y0×Y0→Option (Bool)) (self1:Int×Y0×Y0→Option (Bool)) (v:Int×Y0×Y0):Option (Bool):=href09_Same_1 self0 self1 v
theorem kz105_1 (N:Nat) (s0:St→Option (Bool)) (s1:St→Option (Bool)) (v):(floc (Ez105) Tz105 6 N Tryz.f14 [.bool] [false] [] 1 nowhereR) s1 (ez105_1 v)=href09_Same_1 (fun v=>s0 (ez105_0 v)) (fun v=>s1 (ez105_1 v)) v:=by kernel_rfl
theorem bz105_1 (N:Nat) (s0:St→Option (Bool)) (s1:St→Option (Bool)) (v):(floc (Ez105) Tz105 6 N Tryz.f14 [.bool] [false] [] 1 nowhereR) s1 (ez105_1 v)=gref09_Same_1 N (fun v=>s0 (ez105_0 v)) (fun v=>s1 (ez105_1 v)) v:=kz105_1 N s0 s1 v
def href09_Same_0 (loop1:Int×Y0×Y0→Option (Bool)) (self0:Int×Y0×Y0→Option (Bool)) (v:Int×Y0×Y0):Option (Bool):=
 (bif (decide (v.1 < (List.length v.2.1.2.1:Int))) then ((getI v.2.1.2.1 v.1).bind fun x2=>((getI v.2.2.2.1 v.1).bind fun x3=>(bif (!(eqD .str x2 x3)) then (some false) else (let x4:Int:=(IntKind.i64.wrap (v.1+(1:Int)));(self0 (x4,v.2.1,v.2.2)))))) else (loop1 ((0:Int),v.2.1,v.2.2)))
def gref09_Same_0 (N:Nat) (self0:Int×Y0×Y0→Option (Bool)) (v:Int×Y0×Y0):Option (Bool):=href09_Same_0 (iterV (gref09_Same_1 N self0) N) self0 v
theorem kz105_0 (N:Nat) (s0:St→Option (Bool)) (v):(floc (Ez105) Tz105 6 N Tryz.f14 [.bool] [false] [] 0 nowhereR) s0 (ez105_0 v)=href09_Same_0 (fun v=>iterR (floc (Ez105) Tz105 6 N Tryz.f14 [.bool] [false] [] 1 nowhereR) N (ez105_1 v)) (fun v=>s0 (ez105_0 v)) v:=by kernel_rfl
theorem bz105_0 (N:Nat) (s0:St→Option (Bool)) (v):(floc (Ez105) Tz105 6 N Tryz.f14 [.bool] [false] [] 0 nowhereR) s0 (ez105_0 v)=gref09_Same_0 N (fun v=>s0 (ez105_0 v)) v:=(kz105_0 N s0 v).trans (by rw [funext (iterR_eq ez105_1 (bz105_1 N s0) N)];rfl)
def nref09_Same (loop0:Int×Y0×Y0→Option (Bool)) (x:Y0×Y0):Option (Bool):=
 ((cref04_SameTable (x.1.1,x.2.1)).bind fun x1=>(bif (!x1) then (some false) else (bif ((List.length x.1.2.1:Int) != (List.length x.2.2.1:Int)) then (some false) else (bif ((List.length x.1.2.2.1:Int) != (List.length x.2.2.2.1:Int)) then (some false) else (loop0 ((0:Int),x.1,x.2))))))
def mref09_Same (N:Nat) (x:Y0×Y0):Option (Bool):=nref09_Same (iterV (gref09_Same_0 N) N) x
theorem jz105 (N:Nat) (x:Y0×Y0):rise (Ez105) Tz105 6 N Tryz.f14 [Z3,Z3] [.bool] [false] x=nref09_Same (fun v=>iterR (floc (Ez105) Tz105 6 N Tryz.f14 [.bool] [false] [] 0 nowhereR) N (ez105_0 v)) x:=by kernel_rfl
theorem lz105 (N:Nat) (x:Y0×Y0):rise (Ez105) Tz105 6 N Tryz.f14 [Z3,Z3] [.bool] [false] x=mref09_Same N x:=(jz105 N x).trans (by rw [funext (iterR_eq ez105_0 (bz105_0 N) N)];rfl)
def cref09_Same (x:Y0×Y0):Option (Bool):=mref09_Same big x
def Gz105:Fn2:=⟨[Z3,Z3],[.bool],[false],fun x=>cref09_Same x⟩
theorem Lz105:Rises Tryz.prog 14 Gz105:=rises_of (E:=Ez105) ⟨tabOk,(fsCons2 Lz101 (fsCons2 Lz104 fsNil2)),fun _ _ _=>rfl,mixed,inlNil,rcsNil,owsNil⟩ Tryz.func14 rfl (by decide) (by kernel_rfl) (by kernel_rfl) (by kernel_rfl) (by kernel_rfl) (fun x r _ h=>⟨Tz105,6,big,(lz105 big x).trans h⟩)
def Tlaw09_ImageTells:LT:={ live:=[],keep:=[(27,[1,2,3,4])] }
noncomputable def Elaw09_ImageTells:Env2:={ tab:=tab,fs:=[(10,Gz94),(12,Gz97),(14,Gz105),(15,Gz93),(18,Gz1),(20,Gz64),(21,Gz92),(22,Gz96),(23,Gz99),(24,Gz91),(33,Gz2)],inl:=[(19,Tryz.f19,Tz3)] }
noncomputable def elaw09_ImageTells_0 (v:Int×Y0×Unit×Y6×Y9×(List Y1)×Y6×Y9×(List Y1)×Y0×Int×Int×Int):St:={ s:=[(1,(.loc 0 [])),(2,(.loc 1 [])),(3,(.loc 5 [])),(4,(.val ⟨Z2,v.1⟩))],l:=[(0,.var Z3 (.val ⟨Z3,v.2.1⟩)),(1,.var Z3 (.pair (.row 2) (.pair (.row 3) (.pair (.row 4) (.val ⟨.unit,v.2.2.1⟩))))),(2,.row Z1 v.2.2.2.1),(3,.row .str v.2.2.2.2.1),(4,.row Z0 v.2.2.2.2.2.1),(5,.var Z3 (.pair (.row 6) (.pair (.row 7) (.pair (.row 8) .unit)))),(6,.row Z1 v.2.2.2.2.2.2.1),(7,.row .str v.2.2.2.2.2.2.2.1),(8,.row Z0 v.2.2.2.2.2.2.2.2.1),(9,.var Z3 (.val ⟨Z3,v.2.2.2.2.2.2.2.2.2.1⟩))],k:=[(4096,[(1,(.val ⟨Z2,v.2.2.2.2.2.2.2.2.2.2.1⟩)),(2,(.val ⟨Z2,v.2.2.2.2.2.2.2.2.2.2.2.1⟩)),(3,(.val ⟨(.int .u64),v.2.2.2.2.2.2.2.2.2.2.2.2⟩)),(4,(.loc 9 []))])],b:=16891904 }
def hlaw09_ImageTells_0 (self0:Int×Y0×Unit×Y6×Y9×(List Y1)×Y6×Y9×(List Y1)×Y0×Int×Int×Int→Option (Bool)) (v:Int×Y0×Unit×Y6×Y9×(List Y1)×Y6×Y9×(List Y1)×Y0×Int×Int×Int):Option (Bool):=
 (bif (decide (v.1 < (List.length v.2.1.2.2.1:Int))) then ((getI v.2.1.2.2.1 v.1).bind fun x4=>(let x5:Y5:=([]:Y5);(bif (Nat.ble 1 2&&Nat.ble (List.length x5+List.length x4.2.2.2.1) lim) then (let x6:Y5:=(List.append x5 x4.2.2.2.1);(let x7:(List Y7):=([]:(List Y7));(bif (Nat.ble 1 4&&Nat.ble (List.length x7+List.length x4.2.2.2.2.1) lim) then (let x8:(List Y7):=(List.append x7 x4.2.2.2.2.1);(let x9:Y8:=([]:Y8);(bif (Nat.ble 1 2&&Nat.ble (List.length x9+List.length x4.2.2.2.2.2.1) lim) then (let x10:Y8:=(List.append x9 x4.2.2.2.2.2.1);(let x11:Y8:=([]:Y8);(bif (Nat.ble 1 2&&Nat.ble (List.length x11+List.length x4.2.2.2.2.2.2.1) lim) then (let x12:Y8:=(List.append x11 x4.2.2.2.2.2.2.1);(let x13:(List Y1):=([(x4.1,(x4.2.1,(x4.2.2.1,(x6,(x8,(x10,(x12,x4.2.2.2.2.2.2.2)))))))]:(List Y1));(bif (Nat.ble 1 7&&Nat.ble (List.length v.2.2.2.2.2.2.2.2.1+List.length x13) lim) then (let x14:(List Y1):=(List.append v.2.2.2.2.2.2.2.2.1 x13);(let x15:Int:=(IntKind.i64.wrap (v.1+(1:Int)));(self0 (x15,v.2.1,v.2.2.1,v.2.2.2.1,v.2.2.2.2.1,v.2.2.2.2.2.1,v.2.2.2.2.2.2.1,v.2.2.2.2.2.2.2.1,x14,v.2.2.2.2.2.2.2.2.2.1,v.2.2.2.2.2.2.2.2.2.2.1,v.2.2.2.2.2.2.2.2.2.2.2.1,v.2.2.2.2.2.2.2.2.2.2.2.2)))) else none))) else none))) else none))) else none))) else none))) else ((cimage_Encode (v.2.2.2.2.2.2.1,(v.2.2.2.2.2.2.2.1,(v.2.2.2.2.2.2.2.2.1,())))).bind fun x16=>((cref09_Encode v.2.2.2.2.2.2.2.2.2.1).bind fun x17=>((cimage_Address ((v.2.2.2.2.2.2.1,(v.2.2.2.2.2.2.2.1,(v.2.2.2.2.2.2.2.2.1,()))),v.2.2.2.2.2.2.2.2.2.2.1,v.2.2.2.2.2.2.2.2.2.2.2.1)).bind fun x18=>((cref09_Address (v.2.2.2.2.2.2.2.2.2.1,v.2.2.2.2.2.2.2.2.2.2.1,v.2.2.2.2.2.2.2.2.2.2.2.1)).bind fun x19=>((cimage_Find ((v.2.2.2.2.2.2.1,(v.2.2.2.2.2.2.2.1,(v.2.2.2.2.2.2.2.2.1,()))),v.2.2.2.2.2.2.2.2.2.2.2.2)).bind fun x20=>((cref09_Find (v.2.2.2.2.2.2.2.2.2.1,v.2.2.2.2.2.2.2.2.2.2.2.2)).bind fun x21=>((cimage_Check (v.2.2.2.2.2.2.1,(v.2.2.2.2.2.2.2.1,(v.2.2.2.2.2.2.2.2.1,())))).bind fun x22=>((cref09_Check v.2.2.2.2.2.2.2.2.2.1).bind fun x23=>(bif (x22==x23) then (bif (eqD .str x16.1 x17.1) then (bif (x16.2==x17.2) then (bif (x18.1==x19.1) then (bif (x18.2==x19.2) then (bif (x20.1==x21.1) then (bif (x20.2.1==x21.2.1) then (bif (x20.2.2==x21.2.2) then ((cref09_Same ((v.2.2.2.2.2.2.1,(v.2.2.2.2.2.2.2.1,(v.2.2.2.2.2.2.2.2.1,()))),v.2.2.2.2.2.2.2.2.2.1)).bind fun x24=>(some x24)) else (some false)) else (some false)) else (some false)) else (some false)) else (some false)) else (some false)) else (some false)) else (some false)))))))))))
def glaw09_ImageTells_0 (N:Nat) (self0:Int×Y0×Unit×Y6×Y9×(List Y1)×Y6×Y9×(List Y1)×Y0×Int×Int×Int→Option (Bool)) (v:Int×Y0×Unit×Y6×Y9×(List Y1)×Y6×Y9×(List Y1)×Y0×Int×Int×Int):Option (Bool):=hlaw09_ImageTells_0 self0 v
theorem klaw09_ImageTells_0 (N:Nat) (s0:St→Option (Bool)) (v):(floc (Elaw09_ImageTells) Tlaw09_ImageTells 6 N Tryz.f4 [.bool] [false] [.call 3 1 19] 0 nowhereR) s0 (elaw09_ImageTells_0 v)=hlaw09_ImageTells_0 (fun v=>s0 (elaw09_ImageTells_0 v)) v:=by kernel_rfl
theorem blaw09_ImageTells_0 (N:Nat) (s0:St→Option (Bool)) (v):(floc (Elaw09_ImageTells) Tlaw09_ImageTells 6 N Tryz.f4 [.bool] [false] [.call 3 1 19] 0 nowhereR) s0 (elaw09_ImageTells_0 v)=glaw09_ImageTells_0 N (fun v=>s0 (elaw09_ImageTells_0 v)) v:=klaw09_ImageTells_0 N s0 v
def nlaw09_ImageTells (loop0:Int×Y0×Unit×Y6×Y9×(List Y1)×Y6×Y9×(List Y1)×Y0×Int×Int×Int→Option (Bool)) (x:Y0×Int×Int×Int):Option (Bool):=
 ((cref09_Great x.1).bind fun x1=>(bif x1 then (some true) else ((cref04_Twin x.1.1).bind fun x2=>(bif (Nat.ble 1 1&&Nat.ble (List.length ([]:Y9)+List.length x.1.2.1) lim) then (let x3:Y9:=(List.append ([]:Y9) x.1.2.1);(loop0 ((0:Int),x.1,(),([]:List Y2),([]:List Y3),([]:List Y1),x2,x3,([]:List Y1),x.1,x.2.1,x.2.2.1,x.2.2.2))) else none))))
def mlaw09_ImageTells (N:Nat) (x:Y0×Int×Int×Int):Option (Bool):=nlaw09_ImageTells (iterV (glaw09_ImageTells_0 N) N) x
theorem jlaw09_ImageTells (N:Nat) (x:Y0×Int×Int×Int):rise (Elaw09_ImageTells) Tlaw09_ImageTells 6 N Tryz.f4 [Z3,Z2,Z2,(.int .u64)] [.bool] [false] x=nlaw09_ImageTells (fun v=>iterR (floc (Elaw09_ImageTells) Tlaw09_ImageTells 6 N Tryz.f4 [.bool] [false] [.call 3 1 19] 0 nowhereR) N (elaw09_ImageTells_0 v)) x:=by kernel_rfl
theorem llaw09_ImageTells (N:Nat) (x:Y0×Int×Int×Int):rise (Elaw09_ImageTells) Tlaw09_ImageTells 6 N Tryz.f4 [Z3,Z2,Z2,(.int .u64)] [.bool] [false] x=mlaw09_ImageTells N x:=(jlaw09_ImageTells N x).trans (by rw [funext (iterR_eq elaw09_ImageTells_0 (blaw09_ImageTells_0 N) N)];rfl)
def claw09_ImageTells (x:Y0×Int×Int×Int):Option (Bool):=mlaw09_ImageTells big x
def Glaw09_ImageTells:Fn2:=⟨[Z3,Z2,Z2,(.int .u64)],[.bool],[false],fun x=>claw09_ImageTells x⟩
theorem Llaw09_ImageTells:Rises Tryz.prog 4 Glaw09_ImageTells:=rises_of (E:=Elaw09_ImageTells) ⟨tabOk,(fsCons2 Lz94 (fsCons2 Lz97 (fsCons2 Lz105 (fsCons2 Lz93 (fsCons2 Lz1 (fsCons2 Lz64 (fsCons2 Lz92 (fsCons2 Lz96 (fsCons2 Lz99 (fsCons2 Lz91 (fsCons2 Lz2 fsNil2))))))))))),fun _ _ _=>rfl,mixed,(inlCons (inlB_of Tryz.func19 rfl rfl (by kernel_rfl)) inlNil),rcsNil,owsNil⟩ Tryz.func4 rfl (by decide) (by kernel_rfl) (by kernel_rfl) (by kernel_rfl) (by kernel_rfl) (fun x r _ h=>⟨Tlaw09_ImageTells,6,big,(llaw09_ImageTells big x).trans h⟩)
end Go.Proofs.YtlhnlcbcikbokaaGreatDoor
